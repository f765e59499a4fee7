/- QuotBezout returns true for every a and m, where math/bits's table lies as the program's text lays it. No other condition. -/
import Derived.Test.YtkgkdlgoakgnkabDoorGcd
import Derived.Test.YtkgkdlgoakgnkabDoorInvF
import Derived.Test.YtkgkdlgoakgnkabDoorWideF
import Derived.Test.YtkgkdlgoakgnkabDoorLaid
import Derived.Test.YtkgkdlgoakgnkabDoorCards
namespace Go.Proofs.YtkgkdlgoakgnkabDoor
open Go.RowKit
open Go.ChangeShapes Go.WideShapes Go.ChangeAt
attribute [local go_sem] World.cell?_alloc_some cell_alloc2 cell_alloc3 cell_alloc4 frozen?_alloc_cells frozen_out

set_option maxHeartbeats 1000000 in
theorem bezout_zero (a m x : Nm) (em : Nm.beq m ⟨0, 0, 0, 0⟩ = true) (ex : x = ⟨0, 0, 0, 0⟩)
    (IA : ∀ w, Calls Tryd.prog 7 #[N a, N m] w fun e w' => e = .returned (.tuple #[N x, .int .i64 1]) ∧ Below w.heap.size w w')
    (w : World) :
    Calls Tryd.prog 4 #[N a, N m] w fun e w' => e = .returned (.bool true) ∧ Below w.heap.size w w' := by
  have e1 := eqN m ⟨0, 0, 0, 0⟩
  rw [em] at e1
  have e2 := eqN x ⟨0, 0, 0, 0⟩
  rw [show Nm.beq x ⟨0, 0, 0, 0⟩ = true by rw [ex]; exact Nm.beq_self _] at e2
  have EM : Hid _ := And.intro em ex
  clear em ex
  go_enter Tryd.func4, Tryd.ntmps4
  have H0 : Hid (Has (al4 (al4 w a) m) [(w.heap.size + 1, m), (w.heap.size, a)]) := ((Has.nil w).arg rfl).arg (by simp)
  have b0 : Hid (Below w.heap.size w (al4 (al4 w a) m)) := below_al4 (below_al4 (Below.refl _ _) (Nat.le_refl _)) (by simp)
  go_wp2_with fail
  refine (IA _).mono ?_
  rintro e w1 ⟨rfl, hb1⟩
  have H1 : Hid (Has (al4 (al4 w1 x) ⟨1, 0, 0, 0⟩) [(w1.heap.size + 1, ⟨1, 0, 0, 0⟩), (w1.heap.size, x), (w.heap.size + 1, m), (w.heap.size, a)]) := ((H0.out.up hb1).arg rfl).arg (by simp)
  have b1 : Hid (Below w.heap.size w (al4 (al4 w1 x) ⟨1, 0, 0, 0⟩)) := by
    have q := b0.out.trans (hb1.mono b0.out.size)
    exact below_al4 (below_al4 q q.size) (by rw [size_al4]; have := q.size; omega)
  clear hb1 H0 b0
  go_wp2_with fail
  refine wp_region_up (by kernel_rfl) (by kernel_rfl) (fun U hU f hf hcl => ?_)
  have AO := fun n => Lies.up (x := ⟨1, 0, 0, 0⟩) (k := w1.heap.size + 1) (H1.out.at (by simp)) (hf n).out
  have AO_a := fun n => (AO n).a
  have AO_b := fun n => (AO n).b
  have AO_c := fun n => (AO n).c
  have AO_d := fun n => (AO n).d
  clear AO
  have AM := fun n => Lies.up (x := m) (k := w.heap.size + 1) (H1.out.at (by simp)) (hf n).out
  have AM_a := fun n => (AM n).a
  have AM_b := fun n => (AM n).b
  have AM_c := fun n => (AM n).c
  have AM_d := fun n => (AM n).d
  clear AM
  have AA := fun n => Lies.up (x := a) (k := w.heap.size) (H1.out.at (by simp)) (hf n).out
  have AA_a := fun n => (AA n).a
  have AA_b := fun n => (AA n).b
  have AA_c := fun n => (AA n).c
  have AA_d := fun n => (AA n).d
  clear AA
  repeat (go_big_quiet_step (fail))
  refine wpQuiet_nil ?_
  intro n
  have hb2 := (hf n).out
  generalize f n = w2 at hb2 ⊢
  have H2 : Hid (Has w2 [(w1.heap.size + 1, ⟨1, 0, 0, 0⟩), (w1.heap.size, x), (w.heap.size + 1, m), (w.heap.size, a)]) := H1.out.up hb2
  have b2 : Hid (Below w.heap.size w w2) := b1.out.trans (hb2.mono b1.out.size)
  clear hf hcl hb2 H1 b1 AO_a AO_b AO_c AO_d AM_a AM_b AM_c AM_d AA_a AA_b AA_c AA_d
  obtain ⟨x0, x1, x2, x3⟩ := H2.out.at (k := w1.heap.size) (x := x) (by simp)
  go_wp2_with fail
  go_ret
  exact ⟨rfl, b2.out⟩
set_option maxHeartbeats 1000000 in
theorem bezout_none (a m x g : Nm) (nz : m ≠ ⟨0, 0, 0, 0⟩) (ng : g ≠ ⟨1, 0, 0, 0⟩) (ex : x = ⟨0, 0, 0, 0⟩)
    (IA : ∀ w, Calls Tryd.prog 7 #[N a, N m] w fun e w' => e = .returned (.tuple #[N x, .int .i64 6]) ∧ Below w.heap.size w w')
    (GC : ∀ w, Tab w → Calls Tryd.prog 5 #[N a, N m] w fun e w' => e = .returned (N g) ∧ Below w.heap.size w w')
    (w : World) (hT : Tab w) :
    Calls Tryd.prog 4 #[N a, N m] w fun e w' => e = .returned (.bool true) ∧ Below w.heap.size w w' := by
  have T1 : Hid (∀ w1, Below w.heap.size w w1 → Tab w1) := fun w1 hb => hT.below hT.pos hb
  have e1 := eqN m ⟨0, 0, 0, 0⟩
  rw [Nm.beq_ne nz] at e1
  have e3 := neN g ⟨1, 0, 0, 0⟩
  rw [Nm.beq_ne ng] at e3
  have e2 := eqN x ⟨0, 0, 0, 0⟩
  rw [show Nm.beq x ⟨0, 0, 0, 0⟩ = true by rw [ex]; exact Nm.beq_self _] at e2
  have EM : Hid _ := ex
  clear ex
  go_enter Tryd.func4, Tryd.ntmps4
  have H0 : Hid (Has (al4 (al4 w a) m) [(w.heap.size + 1, m), (w.heap.size, a)]) := ((Has.nil w).arg rfl).arg (by simp)
  have b0 : Hid (Below w.heap.size w (al4 (al4 w a) m)) := below_al4 (below_al4 (Below.refl _ _) (Nat.le_refl _)) (by simp)
  go_wp2_with fail
  refine (IA _).mono ?_
  rintro e w1 ⟨rfl, hb1⟩
  have H1 : Hid (Has (al4 (al4 w1 x) ⟨1, 0, 0, 0⟩) [(w1.heap.size + 1, ⟨1, 0, 0, 0⟩), (w1.heap.size, x), (w.heap.size + 1, m), (w.heap.size, a)]) := ((H0.out.up hb1).arg rfl).arg (by simp)
  have b1 : Hid (Below w.heap.size w (al4 (al4 w1 x) ⟨1, 0, 0, 0⟩)) := by
    have q := b0.out.trans (hb1.mono b0.out.size)
    exact below_al4 (below_al4 q q.size) (by rw [size_al4]; have := q.size; omega)
  clear hb1 H0 b0
  go_wp2_with fail
  refine wp_region_up (by kernel_rfl) (by kernel_rfl) (fun U hU f hf hcl => ?_)
  have AO := fun n => Lies.up (x := ⟨1, 0, 0, 0⟩) (k := w1.heap.size + 1) (H1.out.at (by simp)) (hf n).out
  have AO_a := fun n => (AO n).a
  have AO_b := fun n => (AO n).b
  have AO_c := fun n => (AO n).c
  have AO_d := fun n => (AO n).d
  clear AO
  have AM := fun n => Lies.up (x := m) (k := w.heap.size + 1) (H1.out.at (by simp)) (hf n).out
  have AM_a := fun n => (AM n).a
  have AM_b := fun n => (AM n).b
  have AM_c := fun n => (AM n).c
  have AM_d := fun n => (AM n).d
  clear AM
  have AA := fun n => Lies.up (x := a) (k := w.heap.size) (H1.out.at (by simp)) (hf n).out
  have AA_a := fun n => (AA n).a
  have AA_b := fun n => (AA n).b
  have AA_c := fun n => (AA n).c
  have AA_d := fun n => (AA n).d
  clear AA
  have TF : ∀ n, Tab (f n) := fun n => T1.out _ (b1.out.trans ((hf n).out.mono b1.out.size))
  repeat (go_big_quiet_step (first | (go_at_call 5; exact (GC _ (TF _)).mono fun e w'' ⟨he, hb⟩ => ⟨he, hcl.out _ _ hb⟩)))
  refine wpQuiet_nil ?_
  intro n
  have hb2 := (hf n).out
  generalize f n = w2 at hb2 ⊢
  have H2 : Hid (Has w2 [(w1.heap.size + 1, ⟨1, 0, 0, 0⟩), (w1.heap.size, x), (w.heap.size + 1, m), (w.heap.size, a)]) := H1.out.up hb2
  have b2 : Hid (Below w.heap.size w w2) := b1.out.trans (hb2.mono b1.out.size)
  clear hf hcl hb2 H1 b1 TF AO_a AO_b AO_c AO_d AM_a AM_b AM_c AM_d AA_a AA_b AA_c AA_d
  obtain ⟨x0, x1, x2, x3⟩ := H2.out.at (k := w1.heap.size) (x := x) (by simp)
  go_wp2_with fail
  go_ret
  exact ⟨rfl, b2.out⟩
set_option maxHeartbeats 1000000 in
theorem bezout_walk (a m x p lo pl ph : Nm) (c : Int) (hc : c < 0) (nz : m ≠ ⟨0, 0, 0, 0⟩)
    (IA : ∀ w, Calls Tryd.prog 7 #[N a, N m] w fun e w' => e = .returned (.tuple #[N x, .int .i64 0]) ∧ Below w.heap.size w w')
    (GC : ∀ w, Tab w → Calls Tryd.prog 5 #[N a, N m] w fun e w' => e = .returned (N ⟨1, 0, 0, 0⟩) ∧ Below w.heap.size w w')
    (SM : ∀ w, Calls Tryd.prog 9 #[N a, N x] w fun e w' => e = .returned (Wv pl ph) ∧ Below w.heap.size w w')
    (MP : ∀ w, Calls Tryd.prog 8 #[Wv pl ph, N m] w fun e w' => e = .returned (.tuple #[N p, .int .i64 0]) ∧ Below w.heap.size w w')
    (MW : ∀ w, Calls Tryd.prog 8 #[Wv ⟨1, 0, 0, 0⟩ ⟨0, 0, 0, 0⟩, N m] w fun e w' => e = .returned (.tuple #[N p, .int .i64 0]) ∧ Below w.heap.size w w')
    (IX : ∀ w, Calls Tryd.prog 7 #[N x, N m] w fun e w' => e = .returned (.tuple #[N lo, .int .i64 0]) ∧ Below w.heap.size w w')
    (ML : ∀ w, Calls Tryd.prog 8 #[Wv a ⟨0, 0, 0, 0⟩, N m] w fun e w' => e = .returned (.tuple #[N lo, .int .i64 0]) ∧ Below w.heap.size w w')
    (SC : ∀ w, Calls Tryd.prog 11 #[N x, N m] w fun e w' => e = .returned (.int .i64 c) ∧ Below w.heap.size w w')
    (w : World) (hT : Tab w) :
    Calls Tryd.prog 4 #[N a, N m] w fun e w' => e = .returned (.bool true) ∧ Below w.heap.size w w' := by
  have T1 : Hid (∀ w1, Below w.heap.size w w1 → Tab w1) := fun w1 hb => hT.below hT.pos hb
  have e1 := eqN m ⟨0, 0, 0, 0⟩
  rw [Nm.beq_ne nz] at e1
  have e2 := neN ⟨1, 0, 0, 0⟩ ⟨1, 0, 0, 0⟩
  rw [Nm.beq_self] at e2
  have e3 := eqN p p
  rw [Nm.beq_self] at e3
  have e4 := eqN lo lo
  rw [Nm.beq_self] at e4
  go_enter Tryd.func4, Tryd.ntmps4
  have H0 : Hid (Has (al4 (al4 w a) m) [(w.heap.size + 1, m), (w.heap.size, a)]) := ((Has.nil w).arg rfl).arg (by simp)
  have b0 : Hid (Below w.heap.size w (al4 (al4 w a) m)) := below_al4 (below_al4 (Below.refl _ _) (Nat.le_refl _)) (by simp)
  go_wp2_with fail
  refine (IA _).mono ?_
  rintro e w1 ⟨rfl, hb1⟩
  have H1 : Hid (Has (al4 (al4 w1 x) ⟨1, 0, 0, 0⟩) [(w1.heap.size + 1, ⟨1, 0, 0, 0⟩), (w1.heap.size, x), (w.heap.size + 1, m), (w.heap.size, a)]) := ((H0.out.up hb1).arg rfl).arg (by simp)
  have b1 : Hid (Below w.heap.size w (al4 (al4 w1 x) ⟨1, 0, 0, 0⟩)) := by
    have q := b0.out.trans (hb1.mono b0.out.size)
    exact below_al4 (below_al4 q q.size) (by rw [size_al4]; have := q.size; omega)
  clear hb1 H0 b0
  go_wp2_with fail
  refine wp_region_up (by kernel_rfl) (by kernel_rfl) (fun U hU f hf hcl => ?_)
  have AO := fun n => Lies.up (x := ⟨1, 0, 0, 0⟩) (k := w1.heap.size + 1) (H1.out.at (by simp)) (hf n).out
  have AO_a := fun n => (AO n).a
  have AO_b := fun n => (AO n).b
  have AO_c := fun n => (AO n).c
  have AO_d := fun n => (AO n).d
  clear AO
  have AM := fun n => Lies.up (x := m) (k := w.heap.size + 1) (H1.out.at (by simp)) (hf n).out
  have AM_a := fun n => (AM n).a
  have AM_b := fun n => (AM n).b
  have AM_c := fun n => (AM n).c
  have AM_d := fun n => (AM n).d
  clear AM
  have AA := fun n => Lies.up (x := a) (k := w.heap.size) (H1.out.at (by simp)) (hf n).out
  have AA_a := fun n => (AA n).a
  have AA_b := fun n => (AA n).b
  have AA_c := fun n => (AA n).c
  have AA_d := fun n => (AA n).d
  clear AA
  have TF : ∀ n, Tab (f n) := fun n => T1.out _ (b1.out.trans ((hf n).out.mono b1.out.size))
  repeat (go_big_quiet_step (first | (go_at_call 5; exact (GC _ (TF _)).mono fun e w'' ⟨he, hb⟩ => ⟨he, hcl.out _ _ hb⟩)))
  refine wpQuiet_nil ?_
  intro n
  have hb2 := (hf n).out
  generalize f n = w2 at hb2 ⊢
  have H2 : Hid (Has w2 [(w1.heap.size + 1, ⟨1, 0, 0, 0⟩), (w1.heap.size, x), (w.heap.size + 1, m), (w.heap.size, a)]) := H1.out.up hb2
  have b2 : Hid (Below w.heap.size w w2) := b1.out.trans (hb2.mono b1.out.size)
  clear hf hcl hb2 H1 b1 TF AO_a AO_b AO_c AO_d AM_a AM_b AM_c AM_d AA_a AA_b AA_c AA_d
  go_wp2_with fail
  refine wp_region_alloc1 8 (.cells #[.int .u64 0, .int .u64 0, .int .u64 0, .int .u64 0] 24) (by kernel_rfl) (by kernel_rfl) (by kernel_rfl) (by kernel_rfl) (by decide) (fun _ _ d _ _ h => by cases d <;> exact h) rfl rfl (fun _ _ => by kernel_rfl) ?_
  apply Exists.intro
  refine ⟨fun U hU f hf hcl => ?_, fun k3 w3 hb3 hk3 hc3 => ?_⟩
  · have R0 := fun n => Lies.up (x := a) (k := w.heap.size) (H2.out.at (by simp)) (hf n).out
    have R0_a := fun n => (R0 n).a
    have R0_b := fun n => (R0 n).b
    have R0_c := fun n => (R0 n).c
    have R0_d := fun n => (R0 n).d
    clear R0
    have R1 := fun n => Lies.up (x := x) (k := w1.heap.size) (H2.out.at (by simp)) (hf n).out
    have R1_a := fun n => (R1 n).a
    have R1_b := fun n => (R1 n).b
    have R1_c := fun n => (R1 n).c
    have R1_d := fun n => (R1 n).d
    clear R1
    have R2 := fun n => Lies.up (x := m) (k := w.heap.size + 1) (H2.out.at (by simp)) (hf n).out
    have R2_a := fun n => (R2 n).a
    have R2_b := fun n => (R2 n).b
    have R2_c := fun n => (R2 n).c
    have R2_d := fun n => (R2 n).d
    clear R2
    clear hf
    simp only [List.take_succ_cons, List.take_zero]
    repeat (go_big_quiet_step (first | (go_at_call 9; exact (SM _).mono fun e w'' ⟨he, hb⟩ => ⟨he, hcl.out _ _ hb⟩) | (go_at_call 8; exact (MP _).mono fun e w'' ⟨he, hb⟩ => ⟨he, hcl.out _ _ hb⟩)))
    exact wpQuiet_nil rfl
  · simp only [List.drop_succ_cons, List.drop_zero]
    obtain ⟨c0, c1, c2, c3, cz⟩ := cells4 hc3.out
    have H3 : Hid (Has (st4 w3 k3 p) [(k3, p), (w1.heap.size + 1, ⟨1, 0, 0, 0⟩), (w1.heap.size, x), (w.heap.size + 1, m), (w.heap.size, a)]) := H2.out.new hb3.out hk3 hc3.out
    have b3 : Hid (Below w.heap.size w (st4 w3 k3 p)) := below_st4 (b2.out.trans (hb3.out.mono b2.out.size)) (Nat.le_trans b2.out.size hk3)
    go_wp2_with fail
    clear c0 c1 c2 c3 cz hc3 hb3 H2 b2
    refine wp_region_alloc1 7 (.cells #[.int .u64 0, .int .u64 0, .int .u64 0, .int .u64 0] 24) (by kernel_rfl) (by kernel_rfl) (by kernel_rfl) (by kernel_rfl) (by decide) (fun _ _ d _ _ h => by cases d <;> exact h) rfl rfl (fun _ _ => by kernel_rfl) ?_
    apply Exists.intro
    refine ⟨fun U hU f hf hcl => ?_, fun k4 w4 hb4 hk4 hc4 => ?_⟩
    · have R0 := fun n => Lies.up (x := ⟨1, 0, 0, 0⟩) (k := w1.heap.size + 1) (H3.out.at (by simp)) (hf n).out
      have R0_a := fun n => (R0 n).a
      have R0_b := fun n => (R0 n).b
      have R0_c := fun n => (R0 n).c
      have R0_d := fun n => (R0 n).d
      clear R0
      have R1 := fun n => Lies.up (x := m) (k := w.heap.size + 1) (H3.out.at (by simp)) (hf n).out
      have R1_a := fun n => (R1 n).a
      have R1_b := fun n => (R1 n).b
      have R1_c := fun n => (R1 n).c
      have R1_d := fun n => (R1 n).d
      clear R1
      clear hf
      simp only [List.take_succ_cons, List.take_zero]
      repeat (go_big_quiet_step (first | (go_at_call 10; exact (wide_fun ⟨1, 0, 0, 0⟩ _).mono fun e w'' ⟨he, hb⟩ => ⟨he, hcl.out _ _ hb⟩) | (go_at_call 8; exact (MW _).mono fun e w'' ⟨he, hb⟩ => ⟨he, hcl.out _ _ hb⟩)))
      exact wpQuiet_nil rfl
    · simp only [List.drop_succ_cons, List.drop_zero]
      obtain ⟨c0, c1, c2, c3, cz⟩ := cells4 hc4.out
      have H4 : Hid (Has (st4 w4 k4 p) [(k4, p), (k3, p), (w1.heap.size + 1, ⟨1, 0, 0, 0⟩), (w1.heap.size, x), (w.heap.size + 1, m), (w.heap.size, a)]) := H3.out.new hb4.out hk4 hc4.out
      have b4 : Hid (Below w.heap.size w (st4 w4 k4 p)) := below_st4 (b3.out.trans (hb4.out.mono b3.out.size)) (Nat.le_trans b3.out.size hk4)
      obtain ⟨x0, x1, x2, x3⟩ := H4.out.at (k := w1.heap.size) (x := x) (by simp)
      obtain ⟨m0, m1, m2, m3⟩ := H4.out.at (k := w.heap.size + 1) (x := m) (by simp)
      go_wp2_with fail
      clear c0 c1 c2 c3 cz hc4 hb4 H3 b3
      clear x0 x1 x2 x3 m0 m1 m2 m3
      refine (IX _).mono ?_
      rintro e w5 ⟨rfl, hb5⟩
      have H5 : Hid (Has (al4 w5 lo) [(w5.heap.size, lo), (k4, p), (k3, p), (w1.heap.size + 1, ⟨1, 0, 0, 0⟩), (w1.heap.size, x), (w.heap.size + 1, m), (w.heap.size, a)]) := (H4.out.up hb5).arg rfl
      have b5 : Hid (Below w.heap.size w (al4 w5 lo)) := by
        have q := b4.out.trans (hb5.mono b4.out.size)
        exact below_al4 q q.size
      clear hb5 H4 b4
      go_wp2_with fail
      refine wp_region_alloc1 7 (.cells #[.int .u64 0, .int .u64 0, .int .u64 0, .int .u64 0] 24) (by kernel_rfl) (by kernel_rfl) (by kernel_rfl) (by kernel_rfl) (by decide) (fun _ _ d _ _ h => by cases d <;> exact h) rfl rfl (fun _ _ => by kernel_rfl) ?_
      apply Exists.intro
      refine ⟨fun U hU f hf hcl => ?_, fun k6 w6 hb6 hk6 hc6 => ?_⟩
      · have R0 := fun n => Lies.up (x := a) (k := w.heap.size) (H5.out.at (by simp)) (hf n).out
        have R0_a := fun n => (R0 n).a
        have R0_b := fun n => (R0 n).b
        have R0_c := fun n => (R0 n).c
        have R0_d := fun n => (R0 n).d
        clear R0
        have R1 := fun n => Lies.up (x := m) (k := w.heap.size + 1) (H5.out.at (by simp)) (hf n).out
        have R1_a := fun n => (R1 n).a
        have R1_b := fun n => (R1 n).b
        have R1_c := fun n => (R1 n).c
        have R1_d := fun n => (R1 n).d
        clear R1
        clear hf
        simp only [List.take_succ_cons, List.take_zero]
        repeat (go_big_quiet_step (first | (go_at_call 10; exact (wide_fun a _).mono fun e w'' ⟨he, hb⟩ => ⟨he, hcl.out _ _ hb⟩) | (go_at_call 8; exact (ML _).mono fun e w'' ⟨he, hb⟩ => ⟨he, hcl.out _ _ hb⟩)))
        exact wpQuiet_nil rfl
      · simp only [List.drop_succ_cons, List.drop_zero]
        obtain ⟨c0, c1, c2, c3, cz⟩ := cells4 hc6.out
        have H6 : Hid (Has (st4 w6 k6 lo) [(k6, lo), (w5.heap.size, lo), (k4, p), (k3, p), (w1.heap.size + 1, ⟨1, 0, 0, 0⟩), (w1.heap.size, x), (w.heap.size + 1, m), (w.heap.size, a)]) := H5.out.new hb6.out hk6 hc6.out
        have b6 : Hid (Below w.heap.size w (st4 w6 k6 lo)) := below_st4 (b5.out.trans (hb6.out.mono b5.out.size)) (Nat.le_trans b5.out.size hk6)
        obtain ⟨p0, p1, p2, p3⟩ := H6.out.at (k := k3) (x := p) (by simp)
        obtain ⟨q0, q1, q2, q3⟩ := H6.out.at (k := k4) (x := p) (by simp)
        obtain ⟨x0, x1, x2, x3⟩ := H6.out.at (k := w1.heap.size) (x := x) (by simp)
        obtain ⟨m0, m1, m2, m3⟩ := H6.out.at (k := w.heap.size + 1) (x := m) (by simp)
        go_wp2_with fail
        clear c0 c1 c2 c3 cz hc6 hb6 H5 b5
        clear p0 p1 p2 p3 q0 q1 q2 q3 x0 x1 x2 x3 m0 m1 m2 m3
        refine (SC _).mono ?_
        rintro e w7 ⟨rfl, hb7⟩
        have H7 : Hid (Has w7 [(k6, lo), (w5.heap.size, lo), (k4, p), (k3, p), (w1.heap.size + 1, ⟨1, 0, 0, 0⟩), (w1.heap.size, x), (w.heap.size + 1, m), (w.heap.size, a)]) := H6.out.up hb7
        have b7 : Hid (Below w.heap.size w w7) := b6.out.trans (hb7.mono b6.out.size)
        clear hb7 H6 b6
        obtain ⟨u0, u1, u2, u3⟩ := H7.out.at (k := w5.heap.size) (x := lo) (by simp)
        obtain ⟨v0, v1, v2, v3⟩ := H7.out.at (k := k6) (x := lo) (by simp)
        go_wp2_with fail
        go_ret
        exact ⟨rfl, b7.out⟩
theorem bezout_law (a m : Nm) (oa : a.ok) (om : m.ok) (w : World) (hT : Tab w) :
    Calls Tryd.prog 4 #[N a, N m] w fun e w' => e = .returned (.bool true) ∧ Below w.heap.size w w' := by
  by_cases nz : m = ⟨0, 0, 0, 0⟩
  · subst nz
    exact bezout_zero a _ _ (Nm.beq_self _) rfl (inv_zero a) w
  have hm : 0 < m.nat := Nat.pos_of_ne_zero fun e => nz (Nm.ext_nat om zero_ok (by rw [e]; rfl))
  have m1 := Nm.nat_lt om
  have G := gcd_fun a m oa om
  have glt : Nat.gcd a.nat m.nat < 2 ^ 256 := Nat.lt_of_le_of_lt (Nat.gcd_le_right _ hm) m1
  by_cases hg : Nat.gcd m.nat a.nat = 1
  · obtain ⟨x, hx⟩ := inv_has om hm hg
    rw [Nat.gcd_comm, hg, show Nm.of (((1 : Nat) : Nat) : Int) = ⟨1, 0, 0, 0⟩ from rfl] at G
    have MP := mod_fun (WL (a.nat * x.nat)) (WH (a.nat * x.nat)) m (WL_ok _) (WH_ok _) om nz
    rw [V_of (mul_lt512 oa hx.1), show m.val.toNat = m.nat from rfl, hx.2.2] at MP
    have MW := mod_fun ⟨1, 0, 0, 0⟩ ⟨0, 0, 0, 0⟩ m one_nm zero_ok om nz
    rw [V_wide, show m.val.toNat = m.nat from rfl, show (⟨1, 0, 0, 0⟩ : Nm).nat = 1 from rfl] at MW
    have ML := mod_fun a ⟨0, 0, 0, 0⟩ m oa zero_ok om nz
    rw [V_wide, show m.val.toNat = m.nat from rfl] at ML
    have al := Nat.mod_lt a.nat hm
    have an : (Nm.of ((a.nat % m.nat : Nat) : Int)).nat = a.nat % m.nat := Nm.of_nat (Nat.lt_trans al m1)
    have iy : IsInv x m (Nm.of ((a.nat % m.nat : Nat) : Int)) := by
      refine ⟨Nm.of_ok _, by rw [an]; exact al, ?_⟩
      rw [an, Nat.mul_comm, Nat.mod_mul_mod, hx.2.2]
    have IX := inv_is x m _ hx.1 om nz iy hx.cop
    refine bezout_walk a m x _ _ _ _ _ ?_ nz (inv_is a m x oa om nz hx hg) G (mul_V a x oa hx.1) MP MW IX ML (cmp_fun x m hx.1 om) w hT
    unfold cmpV
    rw [if_pos ?_]
    · decide
    · rw [← Nm.nat_cast hx.1, ← Nm.nat_cast om]
      exact Int.ofNat_lt.2 hx.2.1
  · refine bezout_none a m _ _ nz ?_ rfl (inv_not a m oa om nz hg) G w hT
    intro e
    have := congrArg Nm.nat e
    rw [Nm.of_nat glt, Nat.gcd_comm] at this
    exact hg this

set_option maxRecDepth 100000 in
theorem quotBezout_lifted (os : Os) (started : os.Started) (H : Type) (enc : TypeId × Value → H) :
    ReturnsInHanded {} Tryd.checked os 4 .any (fun w args => (Rows.quotBezoutSpec.pre enc Tryd.prog Tryd.f4 [] false w args ∧ laidMetH Tryd.prog Rows.quotBezoutRow.laid w) ∧ sizedMet enc Tryd.prog Tryd.f4 (OpenSpec.ofChange Rows.quotBezoutSpec) false w args) (Rows.quotBezoutSpec.post enc Tryd.prog Tryd.f4 false true false false) := by
  refine returnsInHanded_of_change_and (C := Tryd.checked) (X := fun w _ => laidMetH Tryd.prog Rows.quotBezoutRow.laid w) (fun _ _ _ hh h => h.of_heap hh) Tryd.own started (by kernel_rfl) Tryd.func4
    (ChangeSpec.witness_shaped (enc := enc) (C := Tryd.checked) (os := os) (X := fun w _ => laidMetH Tryd.prog Rows.quotBezoutRow.laid w) false (World.doorLaid Tryd.prog 14 os) #[.agg #[.int .u64 0, .int .u64 0, .int .u64 0, .int .u64 0], .agg #[.int .u64 0, .int .u64 0, .int .u64 0, .int .u64 0]] 8 rfl (World.shaped_of_RefB (by kernel_rfl) (by kernel_rfl)) (by kernel_rfl) (by kernel_rfl) (by kernel_rfl) (door_met os _)) ?_
  intro W base args ds gs before hval0 hW _ _ hL _
  have hval : ∀ (j : Nat) t v, Tryd.f4.params[j]? = some t → args[j]? = some v → Value.okWide Tryd.prog W .any base t v := hval0
  have hW' := hW
  obtain ⟨p, q, hA0, hV, rfl, hfz, hnd⟩ := hW
  have hA : DataW.TrodAll enc Tryd.prog W 0 (fun _ => true) true Tryd.f4.params.toList args.toList ds p := hA0
  rw [Tryd.params4] at hA hval
  obtain ⟨v0, v1, d0, d1, p0, p1, rfl, rfl, rfl, h0, h1⟩ := trodAll_two hA
  obtain ⟨rfl, rfl⟩ := trodVars_none hV
  obtain ⟨xs0, l0, rfl, rfl, rfl, w0⟩ := open_arr Tryd.underlying24 Tryd.underlying22 Tryd.cellsU64 Tryd.cellsNum (hval 0 24 v0 rfl rfl) h0
  obtain ⟨xs1, l1, rfl, rfl, rfl, w1⟩ := open_arr Tryd.underlying24 Tryd.underlying22 Tryd.cellsU64 Tryd.cellsNum (hval 1 24 v1 rfl rfl) h1
  clear hA0 hval0 hval hA h0 h1
  obtain ⟨a0, b0, c0, d0, rfl⟩ := list4 xs0 l0
  have ok0 : (⟨a0, b0, c0, d0⟩ : Nm).ok := ⟨word_of_wf (w0 _ (by simp)), word_of_wf (w0 _ (by simp)), word_of_wf (w0 _ (by simp)), word_of_wf (w0 _ (by simp))⟩
  obtain ⟨a1, b1, c1, d1, rfl⟩ := list4 xs1 l1
  have ok1 : (⟨a1, b1, c1, d1⟩ : Nm).ok := ⟨word_of_wf (w1 _ (by simp)), word_of_wf (w1 _ (by simp)), word_of_wf (w1 _ (by simp)), word_of_wf (w1 _ (by simp))⟩
  simp only [List.append_nil] at hW'
  refine (bezout_law ⟨a0, b0, c0, d0⟩ ⟨a1, b1, c1, d1⟩ ok0 ok1 W (tab_of_laid hL)).mono fun e W' ⟨he, hg⟩ => ?_
  subst he
  exact ⟨_, rfl, _, _, _, [], [], [], hW', trodAll_mk1 (shut_bool Tryd.underlying4 _), trodAll_mk2 (shut_arr Tryd.underlying24 Tryd.underlying22 Tryd.cellsU64 Tryd.cellsNum l0 w0) (shut_arr Tryd.underlying24 Tryd.underlying22 Tryd.cellsU64 Tryd.cellsNum l1 w1), rfl, hg.frame _, fun h => by cases h⟩

theorem quotBezout_holds : Rows.QuotBezoutSaid :=
  OpenClaim.holds_of_wide 4 Tryd.f4 rfl rfl rfl rfl rfl rfl rfl ⟨rfl, rfl, rfl, rfl, rfl⟩ rfl rfl rfl rfl rfl (by kernel_rfl) Tryd.func4 (by kernel_rfl)
    (of_decide_eq_true (by kernel_rfl)) (by unfold Func.isWrapper; first | (rw [if_pos (by decide +kernel)]; kernel_rfl) | (rw [if_neg (by decide +kernel)]; exact ⟨rfl, rfl⟩))
    (fun os started H enc _ => quotBezout_lifted os started H enc)

theorem quotBezout_card : Rows.QuotBezoutCardSaid :=
  Claim7.holds_tied_plain_at .later [] [.data] true Rows.quotBezoutCard.stood.harness false
    quotBezout_holds (fun _ h => by cases h) (by kernel_rfl) (fun _ h => by cases h) quotBezout_row_tie rfl ⟨rfl, rfl⟩ (by kernel_rfl) rfl
    (fun f fn hf hfn => by
      obtain rfl : f = 4 := Option.some.inj ((show Tryd.prog.funcNamed "sealring/sealringkeep.QuotBezout" = some 4 by kernel_rfl).symm.trans hf) |>.symm
      obtain rfl : fn = Tryd.f4 := (Option.some.inj (Tryd.func4.symm.trans hfn)).symm
      exact ⟨by kernel_rfl, fun j t ht => by
        rw [Tryd.params4] at ht
        have hm : t ∈ [24, 24] := by simpa using Array.mem_of_getElem? ht
        have hall : ([24, 24].all fun u => !Tryd.prog.wantsStandIn u) = true := by kernel_rfl
        exact (show Tryd.prog.wantsStandIn t = false by simpa using List.all_eq_true.1 hall t hm)⟩)
    (by kernel_rfl)
#print axioms quotBezout_card
end Go.Proofs.YtkgkdlgoakgnkabDoor
