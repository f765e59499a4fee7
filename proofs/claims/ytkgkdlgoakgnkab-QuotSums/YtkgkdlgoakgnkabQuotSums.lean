/- QuotSums returns true for every a, b and m. No condition. -/
import Derived.Test.YtkgkdlgoakgnkabMod
import Derived.Test.YtkgkdlgoakgnkabKeepV
import Derived.Test.YtkgkdlgoakgnkabHas
import Derived.Test.YtkgkdlgoakgnkabAl
import Derived.Test.YtkgkdlgoakgnkabArr
import Derived.Test.YtkgkdlgoakgnkabOwn
namespace Go.Proofs.Ytkgkdlgoakgnkab
open Go.RowKit
open Go.ChangeShapes Go.WideShapes Go.ChangeAt
attribute [local go_sem] World.cell?_alloc_some cell_alloc2 cell_alloc3 cell_alloc4 frozen?_alloc_cells frozen_out

set_option maxHeartbeats 1000000 in
theorem quotSums_walk (a b m x y s p s1 s2 t1 t2 p1 p2 q1 q2 : Nm) (nz : m ≠ ⟨0, 0, 0, 0⟩)
    (MA : ∀ w, Calls Try.prog 4 #[Wv a ⟨0, 0, 0, 0⟩, N m] w fun e w' => e = .returned (.tuple #[N x, .int .i64 0]) ∧ Below w.heap.size w w')
    (MB : ∀ w, Calls Try.prog 4 #[Wv b ⟨0, 0, 0, 0⟩, N m] w fun e w' => e = .returned (.tuple #[N y, .int .i64 0]) ∧ Below w.heap.size w w')
    (P1 : ∀ w, Calls Try.prog 6 #[Wv a ⟨0, 0, 0, 0⟩, Wv b ⟨0, 0, 0, 0⟩] w fun e w' => e = .returned (Wv s1 s2) ∧ Below w.heap.size w w')
    (MS : ∀ w, Calls Try.prog 4 #[Wv s1 s2, N m] w fun e w' => e = .returned (.tuple #[N s, .int .i64 0]) ∧ Below w.heap.size w w')
    (P2 : ∀ w, Calls Try.prog 6 #[Wv x ⟨0, 0, 0, 0⟩, Wv y ⟨0, 0, 0, 0⟩] w fun e w' => e = .returned (Wv t1 t2) ∧ Below w.heap.size w w')
    (MT : ∀ w, Calls Try.prog 4 #[Wv t1 t2, N m] w fun e w' => e = .returned (.tuple #[N s, .int .i64 0]) ∧ Below w.heap.size w w')
    (M1 : ∀ w, Calls Try.prog 7 #[N a, N b] w fun e w' => e = .returned (Wv p1 p2) ∧ Below w.heap.size w w')
    (MP : ∀ w, Calls Try.prog 4 #[Wv p1 p2, N m] w fun e w' => e = .returned (.tuple #[N p, .int .i64 0]) ∧ Below w.heap.size w w')
    (M2 : ∀ w, Calls Try.prog 7 #[N x, N y] w fun e w' => e = .returned (Wv q1 q2) ∧ Below w.heap.size w w')
    (MQ : ∀ w, Calls Try.prog 4 #[Wv q1 q2, N m] w fun e w' => e = .returned (.tuple #[N p, .int .i64 0]) ∧ Below w.heap.size w w')
    (w : World) :
    Calls Try.prog 3 #[N a, N b, N m] w fun e w' => e = .returned (.bool true) ∧ Below w.heap.size w w' := by
  have e1 := eqN m ⟨0, 0, 0, 0⟩
  rw [Nm.beq_ne nz] at e1
  have e2 := eqN s s
  rw [Nm.beq_self] at e2
  have e3 := eqN p p
  rw [Nm.beq_self] at e3
  go_enter Try.func3, Try.ntmps3
  have H0 : Hid (Has (al4 (al4 (al4 w a) b) m) [(w.heap.size + 1 + 1, m), (w.heap.size + 1, b), (w.heap.size, a)]) := (((Has.nil w).arg rfl).arg (by simp)).arg (by simp)
  have b0 : Hid (Below w.heap.size w (al4 (al4 (al4 w a) b) m)) := below_al4 (below_al4 (below_al4 (Below.refl _ _) (Nat.le_refl _)) (by simp)) (by simp; omega)
  go_wp2_with fail
  refine wp_region_alloc1 7 (.cells #[.int .u64 0, .int .u64 0, .int .u64 0, .int .u64 0] 24) (by kernel_rfl) (by kernel_rfl) (by kernel_rfl) (by kernel_rfl) (by decide) (fun _ _ d _ _ h => by cases d <;> exact h) rfl rfl (fun _ _ => by kernel_rfl) ?_
  apply Exists.intro
  refine ⟨fun U hU f hf hcl => ?_, fun k1 w1 hb1 hk1 hc1 => ?_⟩
  · have Aa := fun n => Lies.up (x := a) (k := w.heap.size) (H0.out.at (by simp)) (hf n).out
    have Aa_a := fun n => (Aa n).a
    have Aa_b := fun n => (Aa n).b
    have Aa_c := fun n => (Aa n).c
    have Aa_d := fun n => (Aa n).d
    clear Aa
    have Am := fun n => Lies.up (x := m) (k := w.heap.size + 1 + 1) (H0.out.at (by simp)) (hf n).out
    have Am_a := fun n => (Am n).a
    have Am_b := fun n => (Am n).b
    have Am_c := fun n => (Am n).c
    have Am_d := fun n => (Am n).d
    clear Am
    clear hf
    simp only [List.take_succ_cons, List.take_zero]
    repeat (go_big_quiet_step (first | (go_at_call 5; exact (wide_fun a _).mono fun e w'' ⟨he, hb⟩ => ⟨he, hcl.out _ _ hb⟩) | (go_at_call 4; exact (MA _).mono fun e w'' ⟨he, hb⟩ => ⟨he, hcl.out _ _ hb⟩)))
    exact wpQuiet_nil rfl
  · simp only [List.drop_succ_cons, List.drop_zero]
    obtain ⟨c0, c1, c2, c3, cz⟩ := cells4 hc1.out
    have H1 : Hid (Has (st4 w1 k1 x) [(k1, x), (w.heap.size + 1 + 1, m), (w.heap.size + 1, b), (w.heap.size, a)]) := H0.out.new hb1.out hk1 hc1.out
    have b1 : Hid (Below w.heap.size w (st4 w1 k1 x)) := below_st4 (b0.out.trans (hb1.out.mono b0.out.size)) (Nat.le_trans b0.out.size hk1)
    go_wp2_with fail
    clear c0 c1 c2 c3 cz hc1 hb1 H0 b0
    refine wp_region_alloc1 7 (.cells #[.int .u64 0, .int .u64 0, .int .u64 0, .int .u64 0] 24) (by kernel_rfl) (by kernel_rfl) (by kernel_rfl) (by kernel_rfl) (by decide) (fun _ _ d _ _ h => by cases d <;> exact h) rfl rfl (fun _ _ => by kernel_rfl) ?_
    apply Exists.intro
    refine ⟨fun U hU f hf hcl => ?_, fun k2 w2 hb2 hk2 hc2 => ?_⟩
    · have Ab := fun n => Lies.up (x := b) (k := w.heap.size + 1) (H1.out.at (by simp)) (hf n).out
      have Ab_a := fun n => (Ab n).a
      have Ab_b := fun n => (Ab n).b
      have Ab_c := fun n => (Ab n).c
      have Ab_d := fun n => (Ab n).d
      clear Ab
      have Am := fun n => Lies.up (x := m) (k := w.heap.size + 1 + 1) (H1.out.at (by simp)) (hf n).out
      have Am_a := fun n => (Am n).a
      have Am_b := fun n => (Am n).b
      have Am_c := fun n => (Am n).c
      have Am_d := fun n => (Am n).d
      clear Am
      clear hf
      simp only [List.take_succ_cons, List.take_zero]
      repeat (go_big_quiet_step (first | (go_at_call 5; exact (wide_fun b _).mono fun e w'' ⟨he, hb⟩ => ⟨he, hcl.out _ _ hb⟩) | (go_at_call 4; exact (MB _).mono fun e w'' ⟨he, hb⟩ => ⟨he, hcl.out _ _ hb⟩)))
      exact wpQuiet_nil rfl
    · simp only [List.drop_succ_cons, List.drop_zero]
      obtain ⟨c0, c1, c2, c3, cz⟩ := cells4 hc2.out
      have H2 : Hid (Has (st4 w2 k2 y) [(k2, y), (k1, x), (w.heap.size + 1 + 1, m), (w.heap.size + 1, b), (w.heap.size, a)]) := H1.out.new hb2.out hk2 hc2.out
      have b2 : Hid (Below w.heap.size w (st4 w2 k2 y)) := below_st4 (b1.out.trans (hb2.out.mono b1.out.size)) (Nat.le_trans b1.out.size hk2)
      have am := H2.out.at (k := w.heap.size + 1 + 1) (x := m) (by simp)
      obtain ⟨m0, m1, m2, m3⟩ := am
      go_wp2_with fail
      clear m0 m1 m2 m3
      clear c0 c1 c2 c3 cz hc2 hb2 H1 b1
      refine wp_region_alloc1 10 (.cells #[.int .u64 0, .int .u64 0, .int .u64 0, .int .u64 0] 24) (by kernel_rfl) (by kernel_rfl) (by kernel_rfl) (by kernel_rfl) (by decide) (fun _ _ d _ _ h => by cases d <;> exact h) rfl rfl (fun _ _ => by kernel_rfl) ?_
      apply Exists.intro
      refine ⟨fun U hU f hf hcl => ?_, fun k3 w3 hb3 hk3 hc3 => ?_⟩
      · have Aa := fun n => Lies.up (x := a) (k := w.heap.size) (H2.out.at (by simp)) (hf n).out
        have Aa_a := fun n => (Aa n).a
        have Aa_b := fun n => (Aa n).b
        have Aa_c := fun n => (Aa n).c
        have Aa_d := fun n => (Aa n).d
        clear Aa
        have Ab := fun n => Lies.up (x := b) (k := w.heap.size + 1) (H2.out.at (by simp)) (hf n).out
        have Ab_a := fun n => (Ab n).a
        have Ab_b := fun n => (Ab n).b
        have Ab_c := fun n => (Ab n).c
        have Ab_d := fun n => (Ab n).d
        clear Ab
        have Am := fun n => Lies.up (x := m) (k := w.heap.size + 1 + 1) (H2.out.at (by simp)) (hf n).out
        have Am_a := fun n => (Am n).a
        have Am_b := fun n => (Am n).b
        have Am_c := fun n => (Am n).c
        have Am_d := fun n => (Am n).d
        clear Am
        clear hf
        simp only [List.take_succ_cons, List.take_zero]
        repeat (go_big_quiet_step (first | (go_at_call_of 5 a.a; exact (wide_fun a _).mono fun e w'' ⟨he, hb⟩ => ⟨he, hcl.out _ _ hb⟩) | (go_at_call_of 5 b.a; exact (wide_fun b _).mono fun e w'' ⟨he, hb⟩ => ⟨he, hcl.out _ _ hb⟩) | (go_at_call 6; exact (P1 _).mono fun e w'' ⟨he, hb⟩ => ⟨he, hcl.out _ _ hb⟩) | (go_at_call 4; exact (MS _).mono fun e w'' ⟨he, hb⟩ => ⟨he, hcl.out _ _ hb⟩)))
        exact wpQuiet_nil rfl
      · simp only [List.drop_succ_cons, List.drop_zero]
        obtain ⟨c0, c1, c2, c3, cz⟩ := cells4 hc3.out
        have H3 : Hid (Has (st4 w3 k3 s) [(k3, s), (k2, y), (k1, x), (w.heap.size + 1 + 1, m), (w.heap.size + 1, b), (w.heap.size, a)]) := H2.out.new hb3.out hk3 hc3.out
        have b3 : Hid (Below w.heap.size w (st4 w3 k3 s)) := below_st4 (b2.out.trans (hb3.out.mono b2.out.size)) (Nat.le_trans b2.out.size hk3)
        go_wp2_with fail
        clear c0 c1 c2 c3 cz hc3 hb3 H2 b2
        refine wp_region_alloc1 10 (.cells #[.int .u64 0, .int .u64 0, .int .u64 0, .int .u64 0] 24) (by kernel_rfl) (by kernel_rfl) (by kernel_rfl) (by kernel_rfl) (by decide) (fun _ _ d _ _ h => by cases d <;> exact h) rfl rfl (fun _ _ => by kernel_rfl) ?_
        apply Exists.intro
        refine ⟨fun U hU f hf hcl => ?_, fun k4 w4 hb4 hk4 hc4 => ?_⟩
        · have Ax := fun n => Lies.up (x := x) (k := k1) (H3.out.at (by simp)) (hf n).out
          have Ax_a := fun n => (Ax n).a
          have Ax_b := fun n => (Ax n).b
          have Ax_c := fun n => (Ax n).c
          have Ax_d := fun n => (Ax n).d
          clear Ax
          have Ay := fun n => Lies.up (x := y) (k := k2) (H3.out.at (by simp)) (hf n).out
          have Ay_a := fun n => (Ay n).a
          have Ay_b := fun n => (Ay n).b
          have Ay_c := fun n => (Ay n).c
          have Ay_d := fun n => (Ay n).d
          clear Ay
          have Am := fun n => Lies.up (x := m) (k := w.heap.size + 1 + 1) (H3.out.at (by simp)) (hf n).out
          have Am_a := fun n => (Am n).a
          have Am_b := fun n => (Am n).b
          have Am_c := fun n => (Am n).c
          have Am_d := fun n => (Am n).d
          clear Am
          clear hf
          simp only [List.take_succ_cons, List.take_zero]
          repeat (go_big_quiet_step (first | (go_at_call_of 5 x.a; exact (wide_fun x _).mono fun e w'' ⟨he, hb⟩ => ⟨he, hcl.out _ _ hb⟩) | (go_at_call_of 5 y.a; exact (wide_fun y _).mono fun e w'' ⟨he, hb⟩ => ⟨he, hcl.out _ _ hb⟩) | (go_at_call 6; exact (P2 _).mono fun e w'' ⟨he, hb⟩ => ⟨he, hcl.out _ _ hb⟩) | (go_at_call 4; exact (MT _).mono fun e w'' ⟨he, hb⟩ => ⟨he, hcl.out _ _ hb⟩)))
          exact wpQuiet_nil rfl
        · simp only [List.drop_succ_cons, List.drop_zero]
          obtain ⟨c0, c1, c2, c3, cz⟩ := cells4 hc4.out
          have H4 : Hid (Has (st4 w4 k4 s) [(k4, s), (k3, s), (k2, y), (k1, x), (w.heap.size + 1 + 1, m), (w.heap.size + 1, b), (w.heap.size, a)]) := H3.out.new hb4.out hk4 hc4.out
          have b4 : Hid (Below w.heap.size w (st4 w4 k4 s)) := below_st4 (b3.out.trans (hb4.out.mono b3.out.size)) (Nat.le_trans b3.out.size hk4)
          go_wp2_with fail
          clear c0 c1 c2 c3 cz hc4 hb4 H3 b3
          refine wp_region_alloc1 8 (.cells #[.int .u64 0, .int .u64 0, .int .u64 0, .int .u64 0] 24) (by kernel_rfl) (by kernel_rfl) (by kernel_rfl) (by kernel_rfl) (by decide) (fun _ _ d _ _ h => by cases d <;> exact h) rfl rfl (fun _ _ => by kernel_rfl) ?_
          apply Exists.intro
          refine ⟨fun U hU f hf hcl => ?_, fun k5 w5 hb5 hk5 hc5 => ?_⟩
          · have Aa := fun n => Lies.up (x := a) (k := w.heap.size) (H4.out.at (by simp)) (hf n).out
            have Aa_a := fun n => (Aa n).a
            have Aa_b := fun n => (Aa n).b
            have Aa_c := fun n => (Aa n).c
            have Aa_d := fun n => (Aa n).d
            clear Aa
            have Ab := fun n => Lies.up (x := b) (k := w.heap.size + 1) (H4.out.at (by simp)) (hf n).out
            have Ab_a := fun n => (Ab n).a
            have Ab_b := fun n => (Ab n).b
            have Ab_c := fun n => (Ab n).c
            have Ab_d := fun n => (Ab n).d
            clear Ab
            have Am := fun n => Lies.up (x := m) (k := w.heap.size + 1 + 1) (H4.out.at (by simp)) (hf n).out
            have Am_a := fun n => (Am n).a
            have Am_b := fun n => (Am n).b
            have Am_c := fun n => (Am n).c
            have Am_d := fun n => (Am n).d
            clear Am
            clear hf
            simp only [List.take_succ_cons, List.take_zero]
            repeat (go_big_quiet_step (first | (go_at_call 7; exact (M1 _).mono fun e w'' ⟨he, hb⟩ => ⟨he, hcl.out _ _ hb⟩) | (go_at_call 4; exact (MP _).mono fun e w'' ⟨he, hb⟩ => ⟨he, hcl.out _ _ hb⟩)))
            exact wpQuiet_nil rfl
          · simp only [List.drop_succ_cons, List.drop_zero]
            obtain ⟨c0, c1, c2, c3, cz⟩ := cells4 hc5.out
            have H5 : Hid (Has (st4 w5 k5 p) [(k5, p), (k4, s), (k3, s), (k2, y), (k1, x), (w.heap.size + 1 + 1, m), (w.heap.size + 1, b), (w.heap.size, a)]) := H4.out.new hb5.out hk5 hc5.out
            have b5 : Hid (Below w.heap.size w (st4 w5 k5 p)) := below_st4 (b4.out.trans (hb5.out.mono b4.out.size)) (Nat.le_trans b4.out.size hk5)
            go_wp2_with fail
            clear c0 c1 c2 c3 cz hc5 hb5 H4 b4
            refine wp_region_alloc1 8 (.cells #[.int .u64 0, .int .u64 0, .int .u64 0, .int .u64 0] 24) (by kernel_rfl) (by kernel_rfl) (by kernel_rfl) (by kernel_rfl) (by decide) (fun _ _ d _ _ h => by cases d <;> exact h) rfl rfl (fun _ _ => by kernel_rfl) ?_
            apply Exists.intro
            refine ⟨fun U hU f hf hcl => ?_, fun k6 w6 hb6 hk6 hc6 => ?_⟩
            · have Ax := fun n => Lies.up (x := x) (k := k1) (H5.out.at (by simp)) (hf n).out
              have Ax_a := fun n => (Ax n).a
              have Ax_b := fun n => (Ax n).b
              have Ax_c := fun n => (Ax n).c
              have Ax_d := fun n => (Ax n).d
              clear Ax
              have Ay := fun n => Lies.up (x := y) (k := k2) (H5.out.at (by simp)) (hf n).out
              have Ay_a := fun n => (Ay n).a
              have Ay_b := fun n => (Ay n).b
              have Ay_c := fun n => (Ay n).c
              have Ay_d := fun n => (Ay n).d
              clear Ay
              have Am := fun n => Lies.up (x := m) (k := w.heap.size + 1 + 1) (H5.out.at (by simp)) (hf n).out
              have Am_a := fun n => (Am n).a
              have Am_b := fun n => (Am n).b
              have Am_c := fun n => (Am n).c
              have Am_d := fun n => (Am n).d
              clear Am
              clear hf
              simp only [List.take_succ_cons, List.take_zero]
              repeat (go_big_quiet_step (first | (go_at_call 7; exact (M2 _).mono fun e w'' ⟨he, hb⟩ => ⟨he, hcl.out _ _ hb⟩) | (go_at_call 4; exact (MQ _).mono fun e w'' ⟨he, hb⟩ => ⟨he, hcl.out _ _ hb⟩)))
              exact wpQuiet_nil rfl
            · simp only [List.drop_succ_cons, List.drop_zero]
              obtain ⟨c0, c1, c2, c3, cz⟩ := cells4 hc6.out
              have H6 : Hid (Has (st4 w6 k6 p) [(k6, p), (k5, p), (k4, s), (k3, s), (k2, y), (k1, x), (w.heap.size + 1 + 1, m), (w.heap.size + 1, b), (w.heap.size, a)]) := H5.out.new hb6.out hk6 hc6.out
              have b6 : Hid (Below w.heap.size w (st4 w6 k6 p)) := below_st4 (b5.out.trans (hb6.out.mono b5.out.size)) (Nat.le_trans b5.out.size hk6)
              have ak3 := H6.out.at (k := k3) (x := s) (by simp)
              obtain ⟨k3_0, k3_1, k3_2, k3_3⟩ := ak3
              have ak4 := H6.out.at (k := k4) (x := s) (by simp)
              obtain ⟨k4_0, k4_1, k4_2, k4_3⟩ := ak4
              have ak5 := H6.out.at (k := k5) (x := p) (by simp)
              obtain ⟨k5_0, k5_1, k5_2, k5_3⟩ := ak5
              have ak6 := H6.out.at (k := k6) (x := p) (by simp)
              obtain ⟨k6_0, k6_1, k6_2, k6_3⟩ := ak6
              go_wp2_with fail
              go_ret
              exact ⟨rfl, b6.out⟩
set_option maxHeartbeats 1000000 in
theorem quotSums_zero' (a b m x y : Nm) (em : Nm.beq m ⟨0, 0, 0, 0⟩ = true)
    (MA : ∀ w, Calls Try.prog 4 #[Wv a ⟨0, 0, 0, 0⟩, N m] w fun e w' => e = .returned (.tuple #[N x, .int .i64 1]) ∧ Below w.heap.size w w')
    (MB : ∀ w, Calls Try.prog 4 #[Wv b ⟨0, 0, 0, 0⟩, N m] w fun e w' => e = .returned (.tuple #[N y, .int .i64 1]) ∧ Below w.heap.size w w')
    (w : World) :
    Calls Try.prog 3 #[N a, N b, N m] w fun e w' => e = .returned (.bool true) ∧ Below w.heap.size w w' := by
  have e1 := eqN m ⟨0, 0, 0, 0⟩
  rw [em] at e1
  have EM : Hid _ := em
  clear em
  go_enter Try.func3, Try.ntmps3
  have H0 : Hid (Has (al4 (al4 (al4 w a) b) m) [(w.heap.size + 1 + 1, m), (w.heap.size + 1, b), (w.heap.size, a)]) := (((Has.nil w).arg rfl).arg (by simp)).arg (by simp)
  have b0 : Hid (Below w.heap.size w (al4 (al4 (al4 w a) b) m)) := below_al4 (below_al4 (below_al4 (Below.refl _ _) (Nat.le_refl _)) (by simp)) (by simp; omega)
  go_wp2_with fail
  refine wp_region_alloc1 7 (.cells #[.int .u64 0, .int .u64 0, .int .u64 0, .int .u64 0] 24) (by kernel_rfl) (by kernel_rfl) (by kernel_rfl) (by kernel_rfl) (by decide) (fun _ _ d _ _ h => by cases d <;> exact h) rfl rfl (fun _ _ => by kernel_rfl) ?_
  apply Exists.intro
  refine ⟨fun U hU f hf hcl => ?_, fun k1 w1 hb1 hk1 hc1 => ?_⟩
  · have Aa := fun n => Lies.up (x := a) (k := w.heap.size) (H0.out.at (by simp)) (hf n).out
    have Aa_a := fun n => (Aa n).a
    have Aa_b := fun n => (Aa n).b
    have Aa_c := fun n => (Aa n).c
    have Aa_d := fun n => (Aa n).d
    clear Aa
    have Am := fun n => Lies.up (x := m) (k := w.heap.size + 1 + 1) (H0.out.at (by simp)) (hf n).out
    have Am_a := fun n => (Am n).a
    have Am_b := fun n => (Am n).b
    have Am_c := fun n => (Am n).c
    have Am_d := fun n => (Am n).d
    clear Am
    clear hf
    simp only [List.take_succ_cons, List.take_zero]
    repeat (go_big_quiet_step (first | (go_at_call 5; exact (wide_fun a _).mono fun e w'' ⟨he, hb⟩ => ⟨he, hcl.out _ _ hb⟩) | (go_at_call 4; exact (MA _).mono fun e w'' ⟨he, hb⟩ => ⟨he, hcl.out _ _ hb⟩)))
    exact wpQuiet_nil rfl
  · simp only [List.drop_succ_cons, List.drop_zero]
    obtain ⟨c0, c1, c2, c3, cz⟩ := cells4 hc1.out
    have H1 : Hid (Has (st4 w1 k1 x) [(k1, x), (w.heap.size + 1 + 1, m), (w.heap.size + 1, b), (w.heap.size, a)]) := H0.out.new hb1.out hk1 hc1.out
    have b1 : Hid (Below w.heap.size w (st4 w1 k1 x)) := below_st4 (b0.out.trans (hb1.out.mono b0.out.size)) (Nat.le_trans b0.out.size hk1)
    go_wp2_with fail
    clear c0 c1 c2 c3 cz hc1 hb1 H0 b0
    refine wp_region_alloc1 7 (.cells #[.int .u64 0, .int .u64 0, .int .u64 0, .int .u64 0] 24) (by kernel_rfl) (by kernel_rfl) (by kernel_rfl) (by kernel_rfl) (by decide) (fun _ _ d _ _ h => by cases d <;> exact h) rfl rfl (fun _ _ => by kernel_rfl) ?_
    apply Exists.intro
    refine ⟨fun U hU f hf hcl => ?_, fun k2 w2 hb2 hk2 hc2 => ?_⟩
    · have Ab := fun n => Lies.up (x := b) (k := w.heap.size + 1) (H1.out.at (by simp)) (hf n).out
      have Ab_a := fun n => (Ab n).a
      have Ab_b := fun n => (Ab n).b
      have Ab_c := fun n => (Ab n).c
      have Ab_d := fun n => (Ab n).d
      clear Ab
      have Am := fun n => Lies.up (x := m) (k := w.heap.size + 1 + 1) (H1.out.at (by simp)) (hf n).out
      have Am_a := fun n => (Am n).a
      have Am_b := fun n => (Am n).b
      have Am_c := fun n => (Am n).c
      have Am_d := fun n => (Am n).d
      clear Am
      clear hf
      simp only [List.take_succ_cons, List.take_zero]
      repeat (go_big_quiet_step (first | (go_at_call 5; exact (wide_fun b _).mono fun e w'' ⟨he, hb⟩ => ⟨he, hcl.out _ _ hb⟩) | (go_at_call 4; exact (MB _).mono fun e w'' ⟨he, hb⟩ => ⟨he, hcl.out _ _ hb⟩)))
      exact wpQuiet_nil rfl
    · simp only [List.drop_succ_cons, List.drop_zero]
      obtain ⟨c0, c1, c2, c3, cz⟩ := cells4 hc2.out
      have H2 : Hid (Has (st4 w2 k2 y) [(k2, y), (k1, x), (w.heap.size + 1 + 1, m), (w.heap.size + 1, b), (w.heap.size, a)]) := H1.out.new hb2.out hk2 hc2.out
      have b2 : Hid (Below w.heap.size w (st4 w2 k2 y)) := below_st4 (b1.out.trans (hb2.out.mono b1.out.size)) (Nat.le_trans b1.out.size hk2)
      have am := H2.out.at (k := w.heap.size + 1 + 1) (x := m) (by simp)
      obtain ⟨m0, m1, m2, m3⟩ := am
      go_wp2_with fail
      clear m0 m1 m2 m3
      clear c0 c1 c2 c3 cz hc2 hb2 H1 b1
      go_ret
      exact ⟨rfl, b2.out⟩
theorem quotSums_zero (a b : Nm) (w : World) :
    Calls Try.prog 3 #[N a, N b, N ⟨0, 0, 0, 0⟩] w fun e w' => e = .returned (.bool true) ∧ Below w.heap.size w w' :=
  quotSums_zero' a b ⟨0, 0, 0, 0⟩ _ _ (Nm.beq_self _) (mod_zero a ⟨0, 0, 0, 0⟩) (mod_zero b ⟨0, 0, 0, 0⟩) w
theorem quotSums_law (a b m : Nm) (oa : a.ok) (ob : b.ok) (om : m.ok) (w : World) :
    Calls Try.prog 3 #[N a, N b, N m] w fun e w' => e = .returned (.bool true) ∧ Below w.heap.size w w' := by
  by_cases nz : m = ⟨0, 0, 0, 0⟩
  · subst nz
    exact quotSums_zero a b w
  have a1 := Nm.nat_lt oa; have b1 := Nm.nat_lt ob; have m1 := Nm.nat_lt om
  have mpos : 0 < m.nat := Nat.pos_of_ne_zero fun e => nz (Nm.ext_nat om zero_ok (by rw [e]; rfl))
  have MA := mod_fun a ⟨0, 0, 0, 0⟩ m oa zero_ok om nz
  have MB := mod_fun b ⟨0, 0, 0, 0⟩ m ob zero_ok om nz
  rw [V_wide, show m.val.toNat = m.nat from rfl] at MA MB
  have xl : a.nat % m.nat < m.nat := Nat.mod_lt _ mpos
  have yl : b.nat % m.nat < m.nat := Nat.mod_lt _ mpos
  have ox : (Nm.of ((a.nat % m.nat : Nat) : Int)).ok := Nm.of_ok _
  have oy : (Nm.of ((b.nat % m.nat : Nat) : Int)).ok := Nm.of_ok _
  have xv : (Nm.of ((a.nat % m.nat : Nat) : Int)).nat = a.nat % m.nat := Nm.of_nat (by omega)
  have yv : (Nm.of ((b.nat % m.nat : Nat) : Int)).nat = b.nat % m.nat := Nm.of_nat (by omega)
  generalize Nm.of ((a.nat % m.nat : Nat) : Int) = x at *
  generalize Nm.of ((b.nat % m.nat : Nat) : Int) = y at *
  have P1 := plus_V a ⟨0, 0, 0, 0⟩ b ⟨0, 0, 0, 0⟩ oa zero_ok ob zero_ok (by rw [V_wide, V_wide, pow512']; omega)
  have P2 := plus_V x ⟨0, 0, 0, 0⟩ y ⟨0, 0, 0, 0⟩ ox zero_ok oy zero_ok (by rw [V_wide, V_wide, pow512', xv, yv]; omega)
  rw [V_wide, V_wide] at P1 P2
  have MS := mod_fun (WL (a.nat + b.nat)) (WH (a.nat + b.nat)) m (WL_ok _) (WH_ok _) om nz
  have MT := mod_fun (WL (x.nat + y.nat)) (WH (x.nat + y.nat)) m (WL_ok _) (WH_ok _) om nz
  have MP := mod_fun (WL (a.nat * b.nat)) (WH (a.nat * b.nat)) m (WL_ok _) (WH_ok _) om nz
  have MQ := mod_fun (WL (x.nat * y.nat)) (WH (x.nat * y.nat)) m (WL_ok _) (WH_ok _) om nz
  rw [V_of (by rw [pow512']; omega), show m.val.toNat = m.nat from rfl] at MS
  rw [V_of (by rw [pow512', xv, yv]; omega), show m.val.toNat = m.nat from rfl, xv, yv, ← Nat.add_mod] at MT
  rw [V_of (mul_lt512 oa ob), show m.val.toNat = m.nat from rfl] at MP
  rw [V_of (mul_lt512 ox oy), show m.val.toNat = m.nat from rfl, xv, yv, ← Nat.mul_mod] at MQ
  rw [xv, yv] at P2
  have M2 := mul_V x y ox oy
  rw [xv, yv] at M2
  exact quotSums_walk a b m x y _ _ _ _ _ _ _ _ _ _ nz MA MB P1 MS P2 MT (mul_V a b oa ob) MP M2 MQ w

set_option maxRecDepth 100000 in
theorem quotSums_lifted (os : Os) (started : os.Started) (H : Type) (enc : TypeId × Value → H) :
    ReturnsInHanded {} Try.checked os 3 .any (Rows.quotSumsSpec.pre6 enc Try.prog Try.f3 Rows.quotSumsRow.domain false) (Rows.quotSumsSpec.post enc Try.prog Try.f3 false true false false) := by
  refine returnsInHanded_of_change (C := Try.checked) Try.own started (by kernel_rfl) Try.func3
    (ChangeSpec.witness6 (enc := enc) (C := Try.checked) false ⟨#[], #[.agg #[.int .u64 0, .int .u64 0, .int .u64 0, .int .u64 0], .agg #[.int .u64 0, .int .u64 0, .int .u64 0, .int .u64 0], .agg #[.int .u64 0, .int .u64 0, .int .u64 0, .int .u64 0]], []⟩ 8 (by kernel_rfl) (by kernel_rfl) (by kernel_rfl) (by kernel_rfl)) ?_
  intro W base args ds gs before hval0 hW hcnd _
  have hval : ∀ (j : Nat) t v, Try.f3.params[j]? = some t → args[j]? = some v → Value.okWide Try.prog W .any base t v := hval0
  have hW' := hW
  obtain ⟨p, q, hA0, hV, rfl, hfz, hnd⟩ := hW
  have hA : DataW.TrodAll enc Try.prog W 0 (fun _ => true) true Try.f3.params.toList args.toList ds p := hA0
  rw [Try.params3] at hA hval
  obtain ⟨v0, v1, v2, d0, d1, d2, p0, p1, p2, rfl, rfl, rfl, h0, h1, h2⟩ := trodAll_three hA
  obtain ⟨rfl, rfl⟩ := trodVars_none hV
  obtain ⟨xs0, l0, rfl, rfl, rfl, w0⟩ := open_arr Try.underlying24 Try.underlying22 Try.cellsU64 Try.cellsNum (hval 0 24 v0 rfl rfl) h0
  obtain ⟨xs1, l1, rfl, rfl, rfl, w1⟩ := open_arr Try.underlying24 Try.underlying22 Try.cellsU64 Try.cellsNum (hval 1 24 v1 rfl rfl) h1
  obtain ⟨xs2, l2, rfl, rfl, rfl, w2⟩ := open_arr Try.underlying24 Try.underlying22 Try.cellsU64 Try.cellsNum (hval 2 24 v2 rfl rfl) h2
  clear hA0 hval0 hval hA h0 h1 h2
  obtain ⟨a0, b0, c0, d0, rfl⟩ := list4 xs0 l0
  have ok0 : (⟨a0, b0, c0, d0⟩ : Nm).ok := ⟨word_of_wf (w0 _ (by simp)), word_of_wf (w0 _ (by simp)), word_of_wf (w0 _ (by simp)), word_of_wf (w0 _ (by simp))⟩
  obtain ⟨a1, b1, c1, d1, rfl⟩ := list4 xs1 l1
  have ok1 : (⟨a1, b1, c1, d1⟩ : Nm).ok := ⟨word_of_wf (w1 _ (by simp)), word_of_wf (w1 _ (by simp)), word_of_wf (w1 _ (by simp)), word_of_wf (w1 _ (by simp))⟩
  obtain ⟨a2, b2, c2, d2, rfl⟩ := list4 xs2 l2
  have ok2 : (⟨a2, b2, c2, d2⟩ : Nm).ok := ⟨word_of_wf (w2 _ (by simp)), word_of_wf (w2 _ (by simp)), word_of_wf (w2 _ (by simp)), word_of_wf (w2 _ (by simp))⟩
  simp only [List.append_nil] at hW'
  refine (quotSums_law ⟨a0, b0, c0, d0⟩ ⟨a1, b1, c1, d1⟩ ⟨a2, b2, c2, d2⟩ ok0 ok1 ok2 W).mono fun e W' ⟨he, hg⟩ => ?_
  subst he
  exact ⟨_, rfl, _, _, _, [], [], [], hW', trodAll_mk1 (shut_bool Try.underlying4 _), trodAll_mk3 (shut_arr Try.underlying24 Try.underlying22 Try.cellsU64 Try.cellsNum l0 w0) (shut_arr Try.underlying24 Try.underlying22 Try.cellsU64 Try.cellsNum l1 w1) (shut_arr Try.underlying24 Try.underlying22 Try.cellsU64 Try.cellsNum l2 w2), rfl, hg.frame _, fun h => by cases h⟩

theorem quotSums_holds : Rows.QuotSumsSaid :=
  OpenClaim.holds_of_wide 3 Try.f3 rfl rfl rfl rfl rfl rfl rfl ⟨rfl, rfl, rfl, rfl, rfl⟩ rfl rfl rfl rfl rfl (by kernel_rfl) Try.func3 (by kernel_rfl)
    (of_decide_eq_true (by kernel_rfl)) (by unfold Func.isWrapper; first | (rw [if_pos (by decide +kernel)]; kernel_rfl) | (rw [if_neg (by decide +kernel)]; exact ⟨rfl, rfl⟩))
    (fun os started H enc _ => quotSums_lifted os started H enc)
#print axioms quotSums_holds
end Go.Proofs.Ytkgkdlgoakgnkab
