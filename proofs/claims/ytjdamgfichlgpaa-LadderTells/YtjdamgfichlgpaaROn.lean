/- The document's points: On; numbers modulo P held against each other; the contracts by numbers. -/
import Derived.Test.YtjdamgfichlgpaaGrp51
import Derived.Test.YtjdamgfichlgpaaGrp8
import Derived.Test.YtjdamgfichlgpaaFldC
namespace Go.Proofs.Ytjdamgfichlgpaa
open Go.RowKit
attribute [local go_sem] World.cell?_alloc_some cell_alloc2 cell_alloc3 cell_alloc4 frozen?_alloc_cells frozen_out
set_option linter.unusedSimpArgs false
set_option maxRecDepth 100000 in
theorem eqFe {x y : Nat} (hx : x < F.p) (hy : y < F.p) (w : World) : (binOp .eql 33 (.agg (fR x).toArray) (.agg (fR y).toArray)).run Try.prog w = .ok (.bool (decide (x = y))) w := by
  have hg : ∀ n j, j < 16 → (fR n).toArray[j]? = some (.int .i64 ((I.fd n j : Nat) : Int)) := fun n j hj => by simp [I.row, hj]
  rw [run_eql_ints (P := Try.prog) (t := 33) (e := 3) (n := 16) (k := .i64) Try.underlying33 rfl Try.underlying3 (by kernel_rfl) (by kernel_rfl) (fun j => ((I.fd x j : Nat) : Int)) (fun j => ((I.fd y j : Nat) : Int)) _ _ (hg x) (hg y)]
  congr 2
  by_cases h : x = y
  · subst h
    simp
  · rw [decide_eq_false h]
    refine Bool.eq_false_iff.2 fun e => h ?_
    have e2 : ∀ j, j < 16 → I.fd x j = I.fd y j := fun j hj => by
      have h1 := List.all_eq_true.1 e j (List.mem_range.2 hj)
      have h2 : ((I.fd x j : Nat) : Int) = ((I.fd y j : Nat) : Int) := by simpa using h1
      omega
    rw [← I.sm_top hx, ← I.sm_top hy]
    exact I.sm_congr 16 e2
theorem padd_lt (s t : Cv.Tr) : (Cv.padd s t).1 < F.p ∧ (Cv.padd s t).2.1 < F.p ∧ (Cv.padd s t).2.2 < F.p := ⟨F.mul_lt _ _, F.mul_lt _ _, F.mul_lt _ _⟩
set_option maxRecDepth 20000 in
set_option maxHeartbeats 1000000 in
theorem rOn_a (px py nx : Nm) (x y : Nat) (e1 : ∀ w, (binOp .neq 24 (N nx) (N px)).run Try.prog w = .ok (.bool true) w)
    (F1 : ∀ w, Calls Try.prog 12 #[N px] w fun e w' => e = .returned (.agg (fR (x)).toArray) ∧ Below w.heap.size w w')
    (F2 : ∀ w, Calls Try.prog 12 #[N py] w fun e w' => e = .returned (.agg (fR (y)).toArray) ∧ Below w.heap.size w w')
    (N1 : ∀ w, Calls Try.prog 17 #[.agg (fR (x)).toArray] w fun e w' => e = .returned (N nx) ∧ Below w.heap.size w w')
    (w : World) :
    Calls Try.prog 11 #[Wv px py] w fun e w' => e = .returned (.bool false) ∧ Below w.heap.size w w' := by
  go_enter Try.func11, Try.ntmps11
  have s0 : Hid (Kn (kalP w (px) (py)) [(w.heap.size, (c8 (px) (py)))]) := ((Kn.nil w).al (c8 (px) (py)) 26 rfl)
  have b0 : Hid (Below w.heap.size w (kalP w (px) (py))) := ((Below.refl _ _).alloc (Nat.le_refl _) _)
  go_wp2_with fail
  refine wp_region_vars2 6 (.cells #[Value.int IntKind.i64 0, Value.int IntKind.i64 0, Value.int IntKind.i64 0, Value.int IntKind.i64 0, Value.int IntKind.i64 0, Value.int IntKind.i64 0, Value.int IntKind.i64 0, Value.int IntKind.i64 0, Value.int IntKind.i64 0, Value.int IntKind.i64 0, Value.int IntKind.i64 0, Value.int IntKind.i64 0, Value.int IntKind.i64 0, Value.int IntKind.i64 0, Value.int IntKind.i64 0, Value.int IntKind.i64 0] 33) (.cells #[Value.int IntKind.i64 0, Value.int IntKind.i64 0, Value.int IntKind.i64 0, Value.int IntKind.i64 0, Value.int IntKind.i64 0, Value.int IntKind.i64 0, Value.int IntKind.i64 0, Value.int IntKind.i64 0, Value.int IntKind.i64 0, Value.int IntKind.i64 0, Value.int IntKind.i64 0, Value.int IntKind.i64 0, Value.int IntKind.i64 0, Value.int IntKind.i64 0, Value.int IntKind.i64 0, Value.int IntKind.i64 0] 33) (.cells (fR (x)).toArray 33) (.cells (fR (y)).toArray 33) (by kernel_rfl) (by kernel_rfl) (by kernel_rfl) (by kernel_rfl) rfl rfl rfl rfl (by decide) rfl rfl (fun _ _ => by kernel_rfl) (fun _ _ => by kernel_rfl) ?_
  apply Exists.intro
  refine ⟨fun U hU f hf hcl => ?_, fun k j W hc => ?_, fun k j W hc => ?_, fun k1 j1 w1 hb1 hk1 hj1 hn1 hc1 hd1 => ?_⟩
  · skip
    have up_0 := fun nx => (Kn.get (s0.out.up (hf nx).out) 0 0 rfl rfl : (f nx).cell? ⟨w.heap.size, 0, none⟩ = some (.int .u64 (px).a))
    have up_1 := fun nx => (Kn.get (s0.out.up (hf nx).out) 0 1 rfl rfl : (f nx).cell? ⟨w.heap.size, 1, none⟩ = some (.int .u64 (px).b))
    have up_2 := fun nx => (Kn.get (s0.out.up (hf nx).out) 0 2 rfl rfl : (f nx).cell? ⟨w.heap.size, 2, none⟩ = some (.int .u64 (px).c))
    have up_3 := fun nx => (Kn.get (s0.out.up (hf nx).out) 0 3 rfl rfl : (f nx).cell? ⟨w.heap.size, 3, none⟩ = some (.int .u64 (px).d))
    have up_4 := fun nx => (Kn.get (s0.out.up (hf nx).out) 0 4 rfl rfl : (f nx).cell? ⟨w.heap.size, 4, none⟩ = some (.int .u64 (py).a))
    have up_5 := fun nx => (Kn.get (s0.out.up (hf nx).out) 0 5 rfl rfl : (f nx).cell? ⟨w.heap.size, 5, none⟩ = some (.int .u64 (py).b))
    have up_6 := fun nx => (Kn.get (s0.out.up (hf nx).out) 0 6 rfl rfl : (f nx).cell? ⟨w.heap.size, 6, none⟩ = some (.int .u64 (py).c))
    have up_7 := fun nx => (Kn.get (s0.out.up (hf nx).out) 0 7 rfl rfl : (f nx).cell? ⟨w.heap.size, 7, none⟩ = some (.int .u64 (py).d))
    clear hf
    simp only [List.take_succ_cons, List.take_zero]
    repeat (go_big_quiet_step (first | (go_at_call_of 12 [Value.agg #[Value.int IntKind.u64 px.a, Value.int IntKind.u64 px.b, Value.int IntKind.u64 px.c, Value.int IntKind.u64 px.d]]; exact (F1 _).mono fun e w'' ⟨he, hb⟩ => ⟨he, hcl.out _ _ hb⟩) | (go_at_call_of 12 [Value.agg #[Value.int IntKind.u64 py.a, Value.int IntKind.u64 py.b, Value.int IntKind.u64 py.c, Value.int IntKind.u64 py.d]]; exact (F2 _).mono fun e w'' ⟨he, hb⟩ => ⟨he, hcl.out _ _ hb⟩)))
    exact wpQuiet_nil rfl
  · exact st_obj (zs := fZ) (cs := (fR (x))) hc.out rfl rfl rfl (by rw [(fR_length (x)), fZ_length]) (info_fR (x)) (I.one_dI _)
  · exact st_obj (zs := fZ) (cs := (fR (y))) hc.out rfl rfl rfl (by rw [(fR_length (y)), fZ_length]) (info_fR (y)) (I.one_dI _)
  simp only [Act.put, List.setIfInBounds_toArray, List.set_cons_succ, List.set_cons_zero]
  have z1 := b0.out.size
  have g1 : w.heap.size ≤ k1 := Nat.le_trans b0.out.size hk1
  have gj1 : w.heap.size ≤ j1 := Nat.le_trans b0.out.size hj1
  have s1 : Hid (Kn w1 [(k1, (fR (x))), (j1, (fR (y))), (w.heap.size, (c8 (px) (py)))]) := s0.out.two hb1.out hk1 hj1 hn1.out hc1.out hd1.out
  have b1 : Hid (Below w.heap.size w w1) := b0.out.trans (hb1.out.mono b0.out.size)
  clear s0 b0 hb1 hc1 hd1 hk1 hj1
  go_wp2_with fail
  refine wp_region_up (by kernel_rfl) (by kernel_rfl) (fun U hU f hf hcl => ?_)
  have up_0 := fun nx => (Kn.get (s1.out.up (hf nx).out) 2 0 rfl rfl : (f nx).cell? ⟨w.heap.size, 0, none⟩ = some (.int .u64 (px).a))
  have up_1 := fun nx => (Kn.get (s1.out.up (hf nx).out) 2 1 rfl rfl : (f nx).cell? ⟨w.heap.size, 1, none⟩ = some (.int .u64 (px).b))
  have up_2 := fun nx => (Kn.get (s1.out.up (hf nx).out) 2 2 rfl rfl : (f nx).cell? ⟨w.heap.size, 2, none⟩ = some (.int .u64 (px).c))
  have up_3 := fun nx => (Kn.get (s1.out.up (hf nx).out) 2 3 rfl rfl : (f nx).cell? ⟨w.heap.size, 3, none⟩ = some (.int .u64 (px).d))
  have up_4 := fun nx => (Kn.get (s1.out.up (hf nx).out) 2 4 rfl rfl : (f nx).cell? ⟨w.heap.size, 4, none⟩ = some (.int .u64 (py).a))
  have up_5 := fun nx => (Kn.get (s1.out.up (hf nx).out) 2 5 rfl rfl : (f nx).cell? ⟨w.heap.size, 5, none⟩ = some (.int .u64 (py).b))
  have up_6 := fun nx => (Kn.get (s1.out.up (hf nx).out) 2 6 rfl rfl : (f nx).cell? ⟨w.heap.size, 6, none⟩ = some (.int .u64 (py).c))
  have up_7 := fun nx => (Kn.get (s1.out.up (hf nx).out) 2 7 rfl rfl : (f nx).cell? ⟨w.heap.size, 7, none⟩ = some (.int .u64 (py).d))
  have ra_x_0 := fun nx => (Kn.rng (s1.out.up (hf nx).out) 0 rfl : (f nx).rangeAt k1 0 (fR (x)))
  try simp only [List.append_eq, List.cons_append, List.nil_append]
  repeat (first | (refine I.quiet_load rfl 33 _ rfl k1 0 rfl (fR (x)) _ (fun W hW => by obtain ⟨nx, rfl⟩ := hW; exact ra_x_0 nx) Try.underlying33 rfl (info_fR (x)) ?_; simp only [Act.put, List.setIfInBounds_toArray, List.set_cons_succ, List.set_cons_zero]) | go_big_quiet_step (first | (go_at_call_of 17 [Value.agg (fR (x)).toArray]; exact (N1 _).mono fun e w'' ⟨he, hb⟩ => ⟨he, hcl.out _ _ hb⟩)))
  refine wpQuiet_nil ?_
  intro nx
  have hb2 := (hf nx).out
  clear hf hcl up_0 up_1 up_2 up_3 up_4 up_5 up_6 up_7
  generalize f nx = w2 at hb2 ⊢
  have s2 : Hid (Kn w2 [(k1, (fR (x))), (j1, (fR (y))), (w.heap.size, (c8 (px) (py)))]) := s1.out.up hb2
  have b2 : Hid (Below w.heap.size w w2) := b1.out.trans (hb2.mono b1.out.size)
  have z2 := b2.out.size
  clear hb2 s1 b1
  go_wp2_with fail
  go_ret
  exact ⟨rfl, b2.out⟩
set_option maxRecDepth 20000 in
set_option maxHeartbeats 1000000 in
theorem rOn_b (px py ny : Nm) (x y : Nat) (e1 : ∀ w, (binOp .neq 24 (N px) (N px)).run Try.prog w = .ok (.bool false) w) (e2 : ∀ w, (binOp .neq 24 (N ny) (N py)).run Try.prog w = .ok (.bool true) w)
    (F1 : ∀ w, Calls Try.prog 12 #[N px] w fun e w' => e = .returned (.agg (fR (x)).toArray) ∧ Below w.heap.size w w')
    (F2 : ∀ w, Calls Try.prog 12 #[N py] w fun e w' => e = .returned (.agg (fR (y)).toArray) ∧ Below w.heap.size w w')
    (N1 : ∀ w, Calls Try.prog 17 #[.agg (fR (x)).toArray] w fun e w' => e = .returned (N px) ∧ Below w.heap.size w w')
    (N2 : ∀ w, Calls Try.prog 17 #[.agg (fR (y)).toArray] w fun e w' => e = .returned (N ny) ∧ Below w.heap.size w w')
    (w : World) :
    Calls Try.prog 11 #[Wv px py] w fun e w' => e = .returned (.bool false) ∧ Below w.heap.size w w' := by
  go_enter Try.func11, Try.ntmps11
  have s0 : Hid (Kn (kalP w (px) (py)) [(w.heap.size, (c8 (px) (py)))]) := ((Kn.nil w).al (c8 (px) (py)) 26 rfl)
  have b0 : Hid (Below w.heap.size w (kalP w (px) (py))) := ((Below.refl _ _).alloc (Nat.le_refl _) _)
  go_wp2_with fail
  refine wp_region_vars2 6 (.cells #[Value.int IntKind.i64 0, Value.int IntKind.i64 0, Value.int IntKind.i64 0, Value.int IntKind.i64 0, Value.int IntKind.i64 0, Value.int IntKind.i64 0, Value.int IntKind.i64 0, Value.int IntKind.i64 0, Value.int IntKind.i64 0, Value.int IntKind.i64 0, Value.int IntKind.i64 0, Value.int IntKind.i64 0, Value.int IntKind.i64 0, Value.int IntKind.i64 0, Value.int IntKind.i64 0, Value.int IntKind.i64 0] 33) (.cells #[Value.int IntKind.i64 0, Value.int IntKind.i64 0, Value.int IntKind.i64 0, Value.int IntKind.i64 0, Value.int IntKind.i64 0, Value.int IntKind.i64 0, Value.int IntKind.i64 0, Value.int IntKind.i64 0, Value.int IntKind.i64 0, Value.int IntKind.i64 0, Value.int IntKind.i64 0, Value.int IntKind.i64 0, Value.int IntKind.i64 0, Value.int IntKind.i64 0, Value.int IntKind.i64 0, Value.int IntKind.i64 0] 33) (.cells (fR (x)).toArray 33) (.cells (fR (y)).toArray 33) (by kernel_rfl) (by kernel_rfl) (by kernel_rfl) (by kernel_rfl) rfl rfl rfl rfl (by decide) rfl rfl (fun _ _ => by kernel_rfl) (fun _ _ => by kernel_rfl) ?_
  apply Exists.intro
  refine ⟨fun U hU f hf hcl => ?_, fun k j W hc => ?_, fun k j W hc => ?_, fun k1 j1 w1 hb1 hk1 hj1 hn1 hc1 hd1 => ?_⟩
  · skip
    have up_0 := fun nx => (Kn.get (s0.out.up (hf nx).out) 0 0 rfl rfl : (f nx).cell? ⟨w.heap.size, 0, none⟩ = some (.int .u64 (px).a))
    have up_1 := fun nx => (Kn.get (s0.out.up (hf nx).out) 0 1 rfl rfl : (f nx).cell? ⟨w.heap.size, 1, none⟩ = some (.int .u64 (px).b))
    have up_2 := fun nx => (Kn.get (s0.out.up (hf nx).out) 0 2 rfl rfl : (f nx).cell? ⟨w.heap.size, 2, none⟩ = some (.int .u64 (px).c))
    have up_3 := fun nx => (Kn.get (s0.out.up (hf nx).out) 0 3 rfl rfl : (f nx).cell? ⟨w.heap.size, 3, none⟩ = some (.int .u64 (px).d))
    have up_4 := fun nx => (Kn.get (s0.out.up (hf nx).out) 0 4 rfl rfl : (f nx).cell? ⟨w.heap.size, 4, none⟩ = some (.int .u64 (py).a))
    have up_5 := fun nx => (Kn.get (s0.out.up (hf nx).out) 0 5 rfl rfl : (f nx).cell? ⟨w.heap.size, 5, none⟩ = some (.int .u64 (py).b))
    have up_6 := fun nx => (Kn.get (s0.out.up (hf nx).out) 0 6 rfl rfl : (f nx).cell? ⟨w.heap.size, 6, none⟩ = some (.int .u64 (py).c))
    have up_7 := fun nx => (Kn.get (s0.out.up (hf nx).out) 0 7 rfl rfl : (f nx).cell? ⟨w.heap.size, 7, none⟩ = some (.int .u64 (py).d))
    clear hf
    simp only [List.take_succ_cons, List.take_zero]
    repeat (go_big_quiet_step (first | (go_at_call_of 12 [Value.agg #[Value.int IntKind.u64 px.a, Value.int IntKind.u64 px.b, Value.int IntKind.u64 px.c, Value.int IntKind.u64 px.d]]; exact (F1 _).mono fun e w'' ⟨he, hb⟩ => ⟨he, hcl.out _ _ hb⟩) | (go_at_call_of 12 [Value.agg #[Value.int IntKind.u64 py.a, Value.int IntKind.u64 py.b, Value.int IntKind.u64 py.c, Value.int IntKind.u64 py.d]]; exact (F2 _).mono fun e w'' ⟨he, hb⟩ => ⟨he, hcl.out _ _ hb⟩)))
    exact wpQuiet_nil rfl
  · exact st_obj (zs := fZ) (cs := (fR (x))) hc.out rfl rfl rfl (by rw [(fR_length (x)), fZ_length]) (info_fR (x)) (I.one_dI _)
  · exact st_obj (zs := fZ) (cs := (fR (y))) hc.out rfl rfl rfl (by rw [(fR_length (y)), fZ_length]) (info_fR (y)) (I.one_dI _)
  simp only [Act.put, List.setIfInBounds_toArray, List.set_cons_succ, List.set_cons_zero]
  have z1 := b0.out.size
  have g1 : w.heap.size ≤ k1 := Nat.le_trans b0.out.size hk1
  have gj1 : w.heap.size ≤ j1 := Nat.le_trans b0.out.size hj1
  have s1 : Hid (Kn w1 [(k1, (fR (x))), (j1, (fR (y))), (w.heap.size, (c8 (px) (py)))]) := s0.out.two hb1.out hk1 hj1 hn1.out hc1.out hd1.out
  have b1 : Hid (Below w.heap.size w w1) := b0.out.trans (hb1.out.mono b0.out.size)
  clear s0 b0 hb1 hc1 hd1 hk1 hj1
  go_wp2_with fail
  refine wp_region_up (by kernel_rfl) (by kernel_rfl) (fun U hU f hf hcl => ?_)
  have up_0 := fun nx => (Kn.get (s1.out.up (hf nx).out) 2 0 rfl rfl : (f nx).cell? ⟨w.heap.size, 0, none⟩ = some (.int .u64 (px).a))
  have up_1 := fun nx => (Kn.get (s1.out.up (hf nx).out) 2 1 rfl rfl : (f nx).cell? ⟨w.heap.size, 1, none⟩ = some (.int .u64 (px).b))
  have up_2 := fun nx => (Kn.get (s1.out.up (hf nx).out) 2 2 rfl rfl : (f nx).cell? ⟨w.heap.size, 2, none⟩ = some (.int .u64 (px).c))
  have up_3 := fun nx => (Kn.get (s1.out.up (hf nx).out) 2 3 rfl rfl : (f nx).cell? ⟨w.heap.size, 3, none⟩ = some (.int .u64 (px).d))
  have up_4 := fun nx => (Kn.get (s1.out.up (hf nx).out) 2 4 rfl rfl : (f nx).cell? ⟨w.heap.size, 4, none⟩ = some (.int .u64 (py).a))
  have up_5 := fun nx => (Kn.get (s1.out.up (hf nx).out) 2 5 rfl rfl : (f nx).cell? ⟨w.heap.size, 5, none⟩ = some (.int .u64 (py).b))
  have up_6 := fun nx => (Kn.get (s1.out.up (hf nx).out) 2 6 rfl rfl : (f nx).cell? ⟨w.heap.size, 6, none⟩ = some (.int .u64 (py).c))
  have up_7 := fun nx => (Kn.get (s1.out.up (hf nx).out) 2 7 rfl rfl : (f nx).cell? ⟨w.heap.size, 7, none⟩ = some (.int .u64 (py).d))
  have ra_x_0 := fun nx => (Kn.rng (s1.out.up (hf nx).out) 0 rfl : (f nx).rangeAt k1 0 (fR (x)))
  have ra_y_0 := fun nx => (Kn.rng (s1.out.up (hf nx).out) 1 rfl : (f nx).rangeAt j1 0 (fR (y)))
  try simp only [List.append_eq, List.cons_append, List.nil_append]
  repeat (first | (refine I.quiet_load rfl 33 _ rfl k1 0 rfl (fR (x)) _ (fun W hW => by obtain ⟨nx, rfl⟩ := hW; exact ra_x_0 nx) Try.underlying33 rfl (info_fR (x)) ?_; simp only [Act.put, List.setIfInBounds_toArray, List.set_cons_succ, List.set_cons_zero]) | (refine I.quiet_load rfl 33 _ rfl j1 0 rfl (fR (y)) _ (fun W hW => by obtain ⟨nx, rfl⟩ := hW; exact ra_y_0 nx) Try.underlying33 rfl (info_fR (y)) ?_; simp only [Act.put, List.setIfInBounds_toArray, List.set_cons_succ, List.set_cons_zero]) | go_big_quiet_step (first | (go_at_call_of 17 [Value.agg (fR (x)).toArray]; exact (N1 _).mono fun e w'' ⟨he, hb⟩ => ⟨he, hcl.out _ _ hb⟩) | (go_at_call_of 17 [Value.agg (fR (y)).toArray]; exact (N2 _).mono fun e w'' ⟨he, hb⟩ => ⟨he, hcl.out _ _ hb⟩)))
  refine wpQuiet_nil ?_
  intro nx
  have hb2 := (hf nx).out
  clear hf hcl up_0 up_1 up_2 up_3 up_4 up_5 up_6 up_7
  generalize f nx = w2 at hb2 ⊢
  have s2 : Hid (Kn w2 [(k1, (fR (x))), (j1, (fR (y))), (w.heap.size, (c8 (px) (py)))]) := s1.out.up hb2
  have b2 : Hid (Below w.heap.size w w2) := b1.out.trans (hb2.mono b1.out.size)
  have z2 := b2.out.size
  clear hb2 s1 b1
  go_wp2_with fail
  go_ret
  exact ⟨rfl, b2.out⟩
set_option maxRecDepth 20000 in
set_option maxHeartbeats 1000000 in
theorem rOn_c (px py : Nm) (x y xx yy dd dx dy ox s : Nat) (b : Bool) (e1 : ∀ w, (binOp .neq 24 (N px) (N px)).run Try.prog w = .ok (.bool false) w) (e2 : ∀ w, (binOp .neq 24 (N py) (N py)).run Try.prog w = .ok (.bool false) w)
    (e3 : ∀ w, (binOp .eql 33 (.agg (fR yy).toArray) (.agg (fR s).toArray)).run Try.prog w = .ok (.bool b) w)
    (F1 : ∀ w, Calls Try.prog 12 #[N px] w fun e w' => e = .returned (.agg (fR (x)).toArray) ∧ Below w.heap.size w w')
    (F2 : ∀ w, Calls Try.prog 12 #[N py] w fun e w' => e = .returned (.agg (fR (y)).toArray) ∧ Below w.heap.size w w')
    (N1 : ∀ w, Calls Try.prog 17 #[.agg (fR (x)).toArray] w fun e w' => e = .returned (N px) ∧ Below w.heap.size w w')
    (N2 : ∀ w, Calls Try.prog 17 #[.agg (fR (y)).toArray] w fun e w' => e = .returned (N py) ∧ Below w.heap.size w w')
    (M1 : ∀ w, Calls Try.prog 14 #[.agg (fR (x)).toArray, .agg (fR (x)).toArray] w fun e w' => e = .returned (.agg (fR (xx)).toArray) ∧ Below w.heap.size w w')
    (M2 : ∀ w, Calls Try.prog 14 #[.agg (fR (y)).toArray, .agg (fR (y)).toArray] w fun e w' => e = .returned (.agg (fR (yy)).toArray) ∧ Below w.heap.size w w')
    (S1 : ∀ w, Calls Try.prog 42 #[.int .i64 1] w fun e w' => e = .returned (.agg (fR (1)).toArray) ∧ Below w.heap.size w w')
    (P1 : ∀ w, Calls Try.prog 13 #[.agg (fR (1)).toArray, .agg (fR (xx)).toArray] w fun e w' => e = .returned (.agg (fR (ox)).toArray) ∧ Below w.heap.size w w')
    (DF : ∀ w, Calls Try.prog 43 #[] w fun e w' => e = .returned (.agg (fR (dd)).toArray) ∧ Below w.heap.size w w')
    (M3 : ∀ w, Calls Try.prog 14 #[.agg (fR (dd)).toArray, .agg (fR (xx)).toArray] w fun e w' => e = .returned (.agg (fR (dx)).toArray) ∧ Below w.heap.size w w')
    (M4 : ∀ w, Calls Try.prog 14 #[.agg (fR (dx)).toArray, .agg (fR (yy)).toArray] w fun e w' => e = .returned (.agg (fR (dy)).toArray) ∧ Below w.heap.size w w')
    (P2 : ∀ w, Calls Try.prog 13 #[.agg (fR (ox)).toArray, .agg (fR (dy)).toArray] w fun e w' => e = .returned (.agg (fR (s)).toArray) ∧ Below w.heap.size w w')
    (w : World) :
    Calls Try.prog 11 #[Wv px py] w fun e w' => e = .returned (.bool b) ∧ Below w.heap.size w w' := by
  go_enter Try.func11, Try.ntmps11
  have s0 : Hid (Kn (kalP w (px) (py)) [(w.heap.size, (c8 (px) (py)))]) := ((Kn.nil w).al (c8 (px) (py)) 26 rfl)
  have b0 : Hid (Below w.heap.size w (kalP w (px) (py))) := ((Below.refl _ _).alloc (Nat.le_refl _) _)
  go_wp2_with fail
  refine wp_region_vars2 6 (.cells #[Value.int IntKind.i64 0, Value.int IntKind.i64 0, Value.int IntKind.i64 0, Value.int IntKind.i64 0, Value.int IntKind.i64 0, Value.int IntKind.i64 0, Value.int IntKind.i64 0, Value.int IntKind.i64 0, Value.int IntKind.i64 0, Value.int IntKind.i64 0, Value.int IntKind.i64 0, Value.int IntKind.i64 0, Value.int IntKind.i64 0, Value.int IntKind.i64 0, Value.int IntKind.i64 0, Value.int IntKind.i64 0] 33) (.cells #[Value.int IntKind.i64 0, Value.int IntKind.i64 0, Value.int IntKind.i64 0, Value.int IntKind.i64 0, Value.int IntKind.i64 0, Value.int IntKind.i64 0, Value.int IntKind.i64 0, Value.int IntKind.i64 0, Value.int IntKind.i64 0, Value.int IntKind.i64 0, Value.int IntKind.i64 0, Value.int IntKind.i64 0, Value.int IntKind.i64 0, Value.int IntKind.i64 0, Value.int IntKind.i64 0, Value.int IntKind.i64 0] 33) (.cells (fR (x)).toArray 33) (.cells (fR (y)).toArray 33) (by kernel_rfl) (by kernel_rfl) (by kernel_rfl) (by kernel_rfl) rfl rfl rfl rfl (by decide) rfl rfl (fun _ _ => by kernel_rfl) (fun _ _ => by kernel_rfl) ?_
  apply Exists.intro
  refine ⟨fun U hU f hf hcl => ?_, fun k j W hc => ?_, fun k j W hc => ?_, fun k1 j1 w1 hb1 hk1 hj1 hn1 hc1 hd1 => ?_⟩
  · skip
    have up_0 := fun nx => (Kn.get (s0.out.up (hf nx).out) 0 0 rfl rfl : (f nx).cell? ⟨w.heap.size, 0, none⟩ = some (.int .u64 (px).a))
    have up_1 := fun nx => (Kn.get (s0.out.up (hf nx).out) 0 1 rfl rfl : (f nx).cell? ⟨w.heap.size, 1, none⟩ = some (.int .u64 (px).b))
    have up_2 := fun nx => (Kn.get (s0.out.up (hf nx).out) 0 2 rfl rfl : (f nx).cell? ⟨w.heap.size, 2, none⟩ = some (.int .u64 (px).c))
    have up_3 := fun nx => (Kn.get (s0.out.up (hf nx).out) 0 3 rfl rfl : (f nx).cell? ⟨w.heap.size, 3, none⟩ = some (.int .u64 (px).d))
    have up_4 := fun nx => (Kn.get (s0.out.up (hf nx).out) 0 4 rfl rfl : (f nx).cell? ⟨w.heap.size, 4, none⟩ = some (.int .u64 (py).a))
    have up_5 := fun nx => (Kn.get (s0.out.up (hf nx).out) 0 5 rfl rfl : (f nx).cell? ⟨w.heap.size, 5, none⟩ = some (.int .u64 (py).b))
    have up_6 := fun nx => (Kn.get (s0.out.up (hf nx).out) 0 6 rfl rfl : (f nx).cell? ⟨w.heap.size, 6, none⟩ = some (.int .u64 (py).c))
    have up_7 := fun nx => (Kn.get (s0.out.up (hf nx).out) 0 7 rfl rfl : (f nx).cell? ⟨w.heap.size, 7, none⟩ = some (.int .u64 (py).d))
    clear hf
    simp only [List.take_succ_cons, List.take_zero]
    repeat (go_big_quiet_step (first | (go_at_call_of 12 [Value.agg #[Value.int IntKind.u64 px.a, Value.int IntKind.u64 px.b, Value.int IntKind.u64 px.c, Value.int IntKind.u64 px.d]]; exact (F1 _).mono fun e w'' ⟨he, hb⟩ => ⟨he, hcl.out _ _ hb⟩) | (go_at_call_of 12 [Value.agg #[Value.int IntKind.u64 py.a, Value.int IntKind.u64 py.b, Value.int IntKind.u64 py.c, Value.int IntKind.u64 py.d]]; exact (F2 _).mono fun e w'' ⟨he, hb⟩ => ⟨he, hcl.out _ _ hb⟩)))
    exact wpQuiet_nil rfl
  · exact st_obj (zs := fZ) (cs := (fR (x))) hc.out rfl rfl rfl (by rw [(fR_length (x)), fZ_length]) (info_fR (x)) (I.one_dI _)
  · exact st_obj (zs := fZ) (cs := (fR (y))) hc.out rfl rfl rfl (by rw [(fR_length (y)), fZ_length]) (info_fR (y)) (I.one_dI _)
  simp only [Act.put, List.setIfInBounds_toArray, List.set_cons_succ, List.set_cons_zero]
  have z1 := b0.out.size
  have g1 : w.heap.size ≤ k1 := Nat.le_trans b0.out.size hk1
  have gj1 : w.heap.size ≤ j1 := Nat.le_trans b0.out.size hj1
  have s1 : Hid (Kn w1 [(k1, (fR (x))), (j1, (fR (y))), (w.heap.size, (c8 (px) (py)))]) := s0.out.two hb1.out hk1 hj1 hn1.out hc1.out hd1.out
  have b1 : Hid (Below w.heap.size w w1) := b0.out.trans (hb1.out.mono b0.out.size)
  clear s0 b0 hb1 hc1 hd1 hk1 hj1
  go_wp2_with fail
  refine wp_region_up (by kernel_rfl) (by kernel_rfl) (fun U hU f hf hcl => ?_)
  have up_0 := fun nx => (Kn.get (s1.out.up (hf nx).out) 2 0 rfl rfl : (f nx).cell? ⟨w.heap.size, 0, none⟩ = some (.int .u64 (px).a))
  have up_1 := fun nx => (Kn.get (s1.out.up (hf nx).out) 2 1 rfl rfl : (f nx).cell? ⟨w.heap.size, 1, none⟩ = some (.int .u64 (px).b))
  have up_2 := fun nx => (Kn.get (s1.out.up (hf nx).out) 2 2 rfl rfl : (f nx).cell? ⟨w.heap.size, 2, none⟩ = some (.int .u64 (px).c))
  have up_3 := fun nx => (Kn.get (s1.out.up (hf nx).out) 2 3 rfl rfl : (f nx).cell? ⟨w.heap.size, 3, none⟩ = some (.int .u64 (px).d))
  have up_4 := fun nx => (Kn.get (s1.out.up (hf nx).out) 2 4 rfl rfl : (f nx).cell? ⟨w.heap.size, 4, none⟩ = some (.int .u64 (py).a))
  have up_5 := fun nx => (Kn.get (s1.out.up (hf nx).out) 2 5 rfl rfl : (f nx).cell? ⟨w.heap.size, 5, none⟩ = some (.int .u64 (py).b))
  have up_6 := fun nx => (Kn.get (s1.out.up (hf nx).out) 2 6 rfl rfl : (f nx).cell? ⟨w.heap.size, 6, none⟩ = some (.int .u64 (py).c))
  have up_7 := fun nx => (Kn.get (s1.out.up (hf nx).out) 2 7 rfl rfl : (f nx).cell? ⟨w.heap.size, 7, none⟩ = some (.int .u64 (py).d))
  have ra_x_0 := fun nx => (Kn.rng (s1.out.up (hf nx).out) 0 rfl : (f nx).rangeAt k1 0 (fR (x)))
  have ra_y_0 := fun nx => (Kn.rng (s1.out.up (hf nx).out) 1 rfl : (f nx).rangeAt j1 0 (fR (y)))
  try simp only [List.append_eq, List.cons_append, List.nil_append]
  repeat (first | (refine I.quiet_load rfl 33 _ rfl k1 0 rfl (fR (x)) _ (fun W hW => by obtain ⟨nx, rfl⟩ := hW; exact ra_x_0 nx) Try.underlying33 rfl (info_fR (x)) ?_; simp only [Act.put, List.setIfInBounds_toArray, List.set_cons_succ, List.set_cons_zero]) | (refine I.quiet_load rfl 33 _ rfl j1 0 rfl (fR (y)) _ (fun W hW => by obtain ⟨nx, rfl⟩ := hW; exact ra_y_0 nx) Try.underlying33 rfl (info_fR (y)) ?_; simp only [Act.put, List.setIfInBounds_toArray, List.set_cons_succ, List.set_cons_zero]) | go_big_quiet_step (first | (go_at_call_of 17 [Value.agg (fR (x)).toArray]; exact (N1 _).mono fun e w'' ⟨he, hb⟩ => ⟨he, hcl.out _ _ hb⟩) | (go_at_call_of 17 [Value.agg (fR (y)).toArray]; exact (N2 _).mono fun e w'' ⟨he, hb⟩ => ⟨he, hcl.out _ _ hb⟩)))
  refine wpQuiet_nil ?_
  intro nx
  have hb2 := (hf nx).out
  clear hf hcl up_0 up_1 up_2 up_3 up_4 up_5 up_6 up_7
  generalize f nx = w2 at hb2 ⊢
  have s2 : Hid (Kn w2 [(k1, (fR (x))), (j1, (fR (y))), (w.heap.size, (c8 (px) (py)))]) := s1.out.up hb2
  have b2 : Hid (Below w.heap.size w w2) := b1.out.trans (hb2.mono b1.out.size)
  have z2 := b2.out.size
  clear hb2 s1 b1
  go_wp2_with fail
  refine wp_region_vars2 6 (.cells #[Value.int IntKind.i64 0, Value.int IntKind.i64 0, Value.int IntKind.i64 0, Value.int IntKind.i64 0, Value.int IntKind.i64 0, Value.int IntKind.i64 0, Value.int IntKind.i64 0, Value.int IntKind.i64 0, Value.int IntKind.i64 0, Value.int IntKind.i64 0, Value.int IntKind.i64 0, Value.int IntKind.i64 0, Value.int IntKind.i64 0, Value.int IntKind.i64 0, Value.int IntKind.i64 0, Value.int IntKind.i64 0] 33) (.cells #[Value.int IntKind.i64 0, Value.int IntKind.i64 0, Value.int IntKind.i64 0, Value.int IntKind.i64 0, Value.int IntKind.i64 0, Value.int IntKind.i64 0, Value.int IntKind.i64 0, Value.int IntKind.i64 0, Value.int IntKind.i64 0, Value.int IntKind.i64 0, Value.int IntKind.i64 0, Value.int IntKind.i64 0, Value.int IntKind.i64 0, Value.int IntKind.i64 0, Value.int IntKind.i64 0, Value.int IntKind.i64 0] 33) (.cells (fR (xx)).toArray 33) (.cells (fR (yy)).toArray 33) (by kernel_rfl) (by kernel_rfl) (by kernel_rfl) (by kernel_rfl) rfl rfl rfl rfl (by decide) rfl rfl (fun _ _ => by kernel_rfl) (fun _ _ => by kernel_rfl) ?_
  apply Exists.intro
  refine ⟨fun U hU f hf hcl => ?_, fun k j W hc => ?_, fun k j W hc => ?_, fun k3 j3 w3 hb3 hk3 hj3 hn3 hc3 hd3 => ?_⟩
  · skip
    have ra_x_0 := fun nx => (Kn.rng (s2.out.up (hf nx).out) 0 rfl : (f nx).rangeAt k1 0 (fR (x)))
    have ra_y_0 := fun nx => (Kn.rng (s2.out.up (hf nx).out) 1 rfl : (f nx).rangeAt j1 0 (fR (y)))
    clear hf
    simp only [List.take_succ_cons, List.take_zero]
    repeat (first | (refine I.quiet_load rfl 33 _ rfl k1 0 rfl (fR (x)) _ (fun W hW => by obtain ⟨nx, rfl⟩ := hW; exact ra_x_0 nx) Try.underlying33 rfl (info_fR (x)) ?_; simp only [Act.put, List.setIfInBounds_toArray, List.set_cons_succ, List.set_cons_zero]) | (refine I.quiet_load rfl 33 _ rfl j1 0 rfl (fR (y)) _ (fun W hW => by obtain ⟨nx, rfl⟩ := hW; exact ra_y_0 nx) Try.underlying33 rfl (info_fR (y)) ?_; simp only [Act.put, List.setIfInBounds_toArray, List.set_cons_succ, List.set_cons_zero]) | go_big_quiet_step (first | (go_at_call_of 14 [Value.agg (fR (x)).toArray, Value.agg (fR (x)).toArray]; exact (M1 _).mono fun e w'' ⟨he, hb⟩ => ⟨he, hcl.out _ _ hb⟩) | (go_at_call_of 14 [Value.agg (fR (y)).toArray, Value.agg (fR (y)).toArray]; exact (M2 _).mono fun e w'' ⟨he, hb⟩ => ⟨he, hcl.out _ _ hb⟩)))
    exact wpQuiet_nil rfl
  · exact st_obj (zs := fZ) (cs := (fR (xx))) hc.out rfl rfl rfl (by rw [(fR_length (xx)), fZ_length]) (info_fR (xx)) (I.one_dI _)
  · exact st_obj (zs := fZ) (cs := (fR (yy))) hc.out rfl rfl rfl (by rw [(fR_length (yy)), fZ_length]) (info_fR (yy)) (I.one_dI _)
  simp only [Act.put, List.setIfInBounds_toArray, List.set_cons_succ, List.set_cons_zero]
  have z3 := b2.out.size
  have g3 : w.heap.size ≤ k3 := Nat.le_trans b2.out.size hk3
  have gj3 : w.heap.size ≤ j3 := Nat.le_trans b2.out.size hj3
  have s3 : Hid (Kn w3 [(k3, (fR (xx))), (j3, (fR (yy))), (k1, (fR (x))), (j1, (fR (y))), (w.heap.size, (c8 (px) (py)))]) := s2.out.two hb3.out hk3 hj3 hn3.out hc3.out hd3.out
  have b3 : Hid (Below w.heap.size w w3) := b2.out.trans (hb3.out.mono b2.out.size)
  clear s2 b2 hb3 hc3 hd3 hk3 hj3
  go_wp2_with fail
  refine wp_region_up (by kernel_rfl) (by kernel_rfl) (fun U hU f hf hcl => ?_)
  have ra_xx_0 := fun nx => (Kn.rng (s3.out.up (hf nx).out) 0 rfl : (f nx).rangeAt k3 0 (fR (xx)))
  have ra_yy_0 := fun nx => (Kn.rng (s3.out.up (hf nx).out) 1 rfl : (f nx).rangeAt j3 0 (fR (yy)))
  try simp only [List.append_eq, List.cons_append, List.nil_append]
  repeat (first | (refine I.quiet_load rfl 33 _ rfl k3 0 rfl (fR (xx)) _ (fun W hW => by obtain ⟨nx, rfl⟩ := hW; exact ra_xx_0 nx) Try.underlying33 rfl (info_fR (xx)) ?_; simp only [Act.put, List.setIfInBounds_toArray, List.set_cons_succ, List.set_cons_zero]) | (refine I.quiet_load rfl 33 _ rfl j3 0 rfl (fR (yy)) _ (fun W hW => by obtain ⟨nx, rfl⟩ := hW; exact ra_yy_0 nx) Try.underlying33 rfl (info_fR (yy)) ?_; simp only [Act.put, List.setIfInBounds_toArray, List.set_cons_succ, List.set_cons_zero]) | go_big_quiet_step (first | (go_at_call 42; exact (S1 _).mono fun e w'' ⟨he, hb⟩ => ⟨he, hcl.out _ _ hb⟩) | (go_at_call_of 13 [Value.agg (fR (1)).toArray, Value.agg (fR (xx)).toArray]; exact (P1 _).mono fun e w'' ⟨he, hb⟩ => ⟨he, hcl.out _ _ hb⟩) | (go_at_call 43; exact (DF _).mono fun e w'' ⟨he, hb⟩ => ⟨he, hcl.out _ _ hb⟩) | (go_at_call_of 14 [Value.agg (fR (dd)).toArray, Value.agg (fR (xx)).toArray]; exact (M3 _).mono fun e w'' ⟨he, hb⟩ => ⟨he, hcl.out _ _ hb⟩) | (go_at_call_of 14 [Value.agg (fR (dx)).toArray, Value.agg (fR (yy)).toArray]; exact (M4 _).mono fun e w'' ⟨he, hb⟩ => ⟨he, hcl.out _ _ hb⟩) | (go_at_call_of 13 [Value.agg (fR (ox)).toArray, Value.agg (fR (dy)).toArray]; exact (P2 _).mono fun e w'' ⟨he, hb⟩ => ⟨he, hcl.out _ _ hb⟩)))
  refine wpQuiet_nil ?_
  intro nx
  have hb4 := (hf nx).out
  clear hf hcl
  generalize f nx = w4 at hb4 ⊢
  have s4 : Hid (Kn w4 [(k3, (fR (xx))), (j3, (fR (yy))), (k1, (fR (x))), (j1, (fR (y))), (w.heap.size, (c8 (px) (py)))]) := s3.out.up hb4
  have b4 : Hid (Below w.heap.size w w4) := b3.out.trans (hb4.mono b3.out.size)
  have z4 := b4.out.size
  clear hb4 s3 b3
  go_wp2_with fail
  go_ret
  exact ⟨rfl, b4.out⟩
theorem on_eq (x y : Nat) (hx : x < F.p) (hy : y < F.p) : F.mul y y = F.add (F.add 1 (F.mul x x)) (F.mul (F.mul Cv.d (F.mul x x)) (F.mul y y)) ↔ Cv.On (x, y) := by
  have k : Cv.K ((F.mul y y : Nat) - (F.add (F.add 1 (F.mul x x)) (F.mul (F.mul Cv.d (F.mul x x)) (F.mul y y)) : Nat)) (Cv.E x y) := by
    have kx := Cv.K_mul x x
    have ky := Cv.K_mul y y
    have k1 := (Cv.K_add 1 (F.mul x x)).trans ((Cv.K.refl ((1 : Nat) : Int)).add kx)
    have k2 := (Cv.K_mul (F.mul Cv.d (F.mul x x)) (F.mul y y)).trans (((Cv.K_mul Cv.d (F.mul x x)).trans ((Cv.K.refl (Cv.d : Int)).mul kx)).mul ky)
    have k3 := (Cv.K_add (F.add 1 (F.mul x x)) (F.mul (F.mul Cv.d (F.mul x x)) (F.mul y y))).trans (k1.add k2)
    have e : ((y : Int) * y) - (((1 : Nat) : Int) + (x : Int) * x + (Cv.d : Int) * ((x : Int) * x) * ((y : Int) * y)) = Cv.E x y := by
      unfold Cv.E
      grind
    rw [← e]
    exact ky.sub k3
  constructor
  · intro h
    refine ⟨hx, hy, ?_⟩
    have : Cv.Z ((F.mul y y : Nat) - (F.add (F.add 1 (F.mul x x)) (F.mul (F.mul Cv.d (F.mul x x)) (F.mul y y)) : Nat)) := by
      exact Cv.Z_eq.2 (congrArg (· % F.p) h)
    exact k.symm.z this
  · intro h
    have := Cv.Z_eq.1 (k.z h.2.2)
    rwa [Nat.mod_eq_of_lt (F.mul_lt _ _), Nat.mod_eq_of_lt (F.add_lt _ _)] at this
theorem nm_self {x : Nm} (ox : x.ok) (h : x.nat < F.p) : nm (x.nat % F.p) = x := by rw [Nat.mod_eq_of_lt h]; exact (Nm.eq_nm ox rfl).symm
theorem nm_ne {x : Nm} (h : ¬ x.nat < F.p) : nm (x.nat % F.p) ≠ x := fun e => h (by
  have := congrArg Nm.nat e
  rw [f_nat (F.mod_lt _)] at this
  rw [← this]
  exact F.mod_lt _)
theorem rOn_fun (px py : Nm) (ox : px.ok) (oy : py.ok) : (Cv.On (px.nat, py.nat) → ∀ w, Calls Try.prog 11 #[Wv px py] w fun e w' => e = .returned (.bool true) ∧ Below w.heap.size w w') ∧ (¬ Cv.On (px.nat, py.nat) → ∀ w, Calls Try.prog 11 #[Wv px py] w fun e w' => e = .returned (.bool false) ∧ Below w.heap.size w w') := by
  have F1 := I.field_fe px ox
  have F2 := I.field_fe py oy
  have N1 := I.num_fe _ (F.mod_lt px.nat)
  have N2 := I.num_fe _ (F.mod_lt py.nat)
  by_cases h1 : px.nat < F.p
  · have e1 := neN px px
    rw [Nm.beq_self] at e1
    by_cases h2 : py.nat < F.p
    · have e2 := neN py py
      rw [Nm.beq_self] at e2
      rw [nm_self ox h1] at N1
      rw [nm_self oy h2] at N2
      rw [Nat.mod_eq_of_lt h1] at N1 F1
      rw [Nat.mod_eq_of_lt h2] at N2 F2
      have m := F.mul_lt; have a := F.add_lt
      have main := fun w => rOn_c px py px.nat py.nat _ _ Cv.d _ _ _ _ _ e1 e2 (eqFe (m _ _) (a _ _)) F1 F2 N1 N2 (I.by_fe _ _ h1 h1) (I.by_fe _ _ h2 h2) (I.small_fe 1 (by decide)) (I.plus_fe _ _ (by decide) (m _ _)) dOf_fun (I.by_fe _ _ Cv.d_lt (m _ _)) (I.by_fe _ _ (m _ _) (m _ _)) (I.plus_fe _ _ (a _ _) (m _ _)) w
      refine ⟨fun h w => ?_, fun h w => ?_⟩
      · have := main w
        rwa [decide_eq_true ((on_eq _ _ h1 h2).2 h)] at this
      · have := main w
        rwa [decide_eq_false (fun e => h ((on_eq _ _ h1 h2).1 e))] at this
    · refine ⟨fun h => absurd h.2.1 h2, fun _ w => ?_⟩
      have e2 := neN (nm (py.nat % F.p)) py
      rw [Nm.beq_ne (nm_ne h2)] at e2
      rw [nm_self ox h1] at N1
      exact rOn_b px py _ _ _ e1 e2 F1 F2 N1 N2 w
  · refine ⟨fun h => absurd h.1 h1, fun _ w => ?_⟩
    have e1 := neN (nm (px.nat % F.p)) px
    rw [Nm.beq_ne (nm_ne h1)] at e1
    exact rOn_a px py _ _ _ e1 F1 F2 N1 w
end Go.Proofs.Ytjdamgfichlgpaa
