/- The contract of sealringkeep.plus: sums of numbers of eight words. -/
import Derived.Test.YtkgkdlgoakgnkabWideF
import Derived.Test.YtkgkdlgoakgnkabAddSub
import Derived.Test.YtkgkdlgoakgnkabEq
import Derived.Deep.RegionHeld
import Derived.Test.YtkgkdlgoakgnkabHalf
import Derived.Test.YtkgkdlgoakgnkabUpA
import Derived.Test.YtkgkdlgoakgnkabStore
namespace Go.Proofs.Ytkgkdlgoakgnkab
open Go.RowKit
attribute [local go_sem] World.cell?_alloc_some

set_option maxHeartbeats 400000 in
theorem plus_fun (l h l' h' : Nm) (ol : l.ok) (oh : h.ok) (ol' : l'.ok) (oh' : h'.ok) (w : World) :
    Calls Try.prog 6 #[Wv l h, Wv l' h'] w fun e w' => e = .returned (Wv (addS l l') (addS (addS h h') ⟨addC l l', 0, 0, 0⟩)) ∧ Below w.heap.size w w' := by
  go_enter Try.func6, Try.ntmps6
  go_wp2_with fail
  refine wp_region_alloc1 8 (.cells #[.int .u64 0, .int .u64 0, .int .u64 0, .int .u64 0] 24) (by kernel_rfl) (by kernel_rfl) (by kernel_rfl) (by kernel_rfl) (by decide) (fun _ _ d _ _ h => by cases d <;> exact h) rfl rfl (fun _ _ => by kernel_rfl) ?_
  apply Exists.intro
  refine ⟨fun U hU f hf hcl => ?_, fun k1 w1 hb1 hk1 hc1 => ?_⟩
  · have q := fun n => Lies8.up (l := l) (h := h) (k := w.heap.size) (by constructor <;> simp [go_sem]) (hf n).out
    have q_a := fun n => (q n).a
    have q_b := fun n => (q n).b
    have q_c := fun n => (q n).c
    have q_d := fun n => (q n).d
    have q_e := fun n => (q n).e
    have q_f := fun n => (q n).f
    have q_g := fun n => (q n).g
    have q_i := fun n => (q n).i
    clear q
    have p := fun n => Lies8.up (l := l') (h := h') (k := w.heap.size + 1) (by constructor <;> simp [go_sem]) (hf n).out
    have p_a := fun n => (p n).a
    have p_b := fun n => (p n).b
    have p_c := fun n => (p n).c
    have p_d := fun n => (p n).d
    have p_e := fun n => (p n).e
    have p_f := fun n => (p n).f
    have p_g := fun n => (p n).g
    have p_i := fun n => (p n).i
    clear p
    clear hf
    simp only [List.take_succ_cons, List.take_zero]
    repeat (go_big_quiet_step (first | (go_at_call_of 11 l.a; exact (low_fun l h _).mono fun e w'' ⟨he, hb⟩ => ⟨he, hcl.out _ _ hb⟩) | (go_at_call_of 11 l'.a; exact (low_fun l' h' _).mono fun e w'' ⟨he, hb⟩ => ⟨he, hcl.out _ _ hb⟩) | (go_at_call 10; exact (add_fun l l' ol ol' _).mono fun e w'' ⟨he, hb⟩ => ⟨he, hcl.out _ _ hb⟩)))
    exact wpQuiet_nil rfl
  · simp only [List.drop_succ_cons, List.drop_zero]
    obtain ⟨c0, c1, c2, c3, cz⟩ := cells4 hc1.out
    simp at hk1
    have z1 := hb1.out.size
    simp at z1
    have La : Hid (Lies8 w1 w.heap.size l h) := Lies8.up (by constructor <;> simp [go_sem]) hb1.out
    have Lb : Hid (Lies8 w1 (w.heap.size + 1) l' h') := Lies8.up (by constructor <;> simp [go_sem]) hb1.out
    have Lr : Hid (Cells8 w1 (w.heap.size + 1 + 1) (.int .u64 0) (.int .u64 0) (.int .u64 0) (.int .u64 0) (.int .u64 0) (.int .u64 0) (.int .u64 0) (.int .u64 0)) := Cells8.up (by constructor <;> simp [go_sem]) hb1.out
    have b1 : Hid (Below w.heap.size w (st4 w1 k1 (addS l l'))) := below_st4 (Below.trans (((Below.refl _ _).alloc (by simp) _).alloc (by simp) _ |>.alloc (by simp <;> omega) _) (hb1.out.mono (by simp <;> omega))) (by omega)
    have L1 : Hid (Lies (st4 w1 k1 (addS l l')) k1 (addS l l')) := Lies.st4_self hc1.out _
    go_wp2_with fail
    clear c0 c1 c2 c3 cz hc1 hb1
    refine wp_region_alloc1 8 (.cells #[.int .u64 0, .int .u64 0, .int .u64 0, .int .u64 0] 24) (by kernel_rfl) (by kernel_rfl) (by kernel_rfl) (by kernel_rfl) (by decide) (fun _ _ d _ _ h => by cases d <;> exact h) rfl rfl (fun _ _ => by kernel_rfl) ?_
    apply Exists.intro
    refine ⟨fun U hU f hf hcl => ?_, fun k2 w2 hb2 hk2 hc2 => ?_⟩
    · have q := fun n => Lies8.up (l := l) (h := h) (k := w.heap.size) (La.out.st4_ne (by omega)) (hf n).out
      have q_a := fun n => (q n).a
      have q_b := fun n => (q n).b
      have q_c := fun n => (q n).c
      have q_d := fun n => (q n).d
      have q_e := fun n => (q n).e
      have q_f := fun n => (q n).f
      have q_g := fun n => (q n).g
      have q_i := fun n => (q n).i
      clear q
      have p := fun n => Lies8.up (l := l') (h := h') (k := w.heap.size + 1) (Lb.out.st4_ne (by omega)) (hf n).out
      have p_a := fun n => (p n).a
      have p_b := fun n => (p n).b
      have p_c := fun n => (p n).c
      have p_d := fun n => (p n).d
      have p_e := fun n => (p n).e
      have p_f := fun n => (p n).f
      have p_g := fun n => (p n).g
      have p_i := fun n => (p n).i
      clear p
      clear hf
      simp only [List.take_succ_cons, List.take_zero]
      repeat (go_big_quiet_step (first | (go_at_call_of 12 l.a; exact (high_fun l h _).mono fun e w'' ⟨he, hb⟩ => ⟨he, hcl.out _ _ hb⟩) | (go_at_call_of 12 l'.a; exact (high_fun l' h' _).mono fun e w'' ⟨he, hb⟩ => ⟨he, hcl.out _ _ hb⟩) | (go_at_call 10; exact (add_fun h h' oh oh' _).mono fun e w'' ⟨he, hb⟩ => ⟨he, hcl.out _ _ hb⟩)))
      exact wpQuiet_nil rfl
    · simp only [List.drop_succ_cons, List.drop_zero]
      obtain ⟨c0, c1, c2, c3, cz⟩ := cells4 hc2.out
      rw [size_st4] at hk2
      have z2 := hb2.out.size
      rw [size_st4] at z2
      have hne12 : k2 ≠ k1 := by have := lt_of_cell L1.out.a; rw [size_st4] at this; omega
      have L1' : Hid (Lies (st4 w2 k2 (addS h h')) k1 (addS l l')) := (L1.out.up hb2.out).st4_ne hne12
      have L2 : Hid (Lies (st4 w2 k2 (addS h h')) k2 (addS h h')) := Lies.st4_self hc2.out _
      have Lr2 : Hid (Cells8 (st4 w2 k2 (addS h h')) (w.heap.size + 1 + 1) (.int .u64 0) (.int .u64 0) (.int .u64 0) (.int .u64 0) (.int .u64 0) (.int .u64 0) (.int .u64 0) (.int .u64 0)) := ((Lr.out.st4_ne (by omega)).up hb2.out).st4_ne (by omega)
      have C2 : Hid (Cells4 (st4 w2 k2 (addS h h')) k2 (.int .u64 (addS h h').a) (.int .u64 (addS h h').b) (.int .u64 (addS h h').c) (.int .u64 (addS h h').d)) := (cells4 hc2.out).st4_self
      have b2 : Hid (Below w.heap.size w (st4 w2 k2 (addS h h'))) := below_st4 (b1.out.trans (hb2.out.mono (by rw [size_st4]; omega))) (by omega)
      have s2 := size_st4 w2 k2 (addS h h')
      go_wp2_with fail
      clear c0 c1 c2 c3 cz hc2 hb2 La Lb Lr L1 b1
      refine (add_fun (addS h h') ⟨addC l l', 0, 0, 0⟩ (Nm.of_ok _) (one_ok (addC_word ol ol')) _).mono ?_
      rintro e w4 ⟨rfl, hb4⟩
      have C4 := C2.out.up hb4
      obtain ⟨c0, c1, c2, c3, cz⟩ := C4
      have L14 : Hid (Lies (st4 w4 k2 (addS (addS h h') ⟨addC l l', 0, 0, 0⟩)) k1 (addS l l')) := (L1'.out.up hb4).st4_ne hne12
      have L24 : Hid (Lies (st4 w4 k2 (addS (addS h h') ⟨addC l l', 0, 0, 0⟩)) k2 (addS (addS h h') ⟨addC l l', 0, 0, 0⟩)) := (C2.out.up hb4).st4_self.lies
      have Lr4 : Hid (Cells8 (st4 w4 k2 (addS (addS h h') ⟨addC l l', 0, 0, 0⟩)) (w.heap.size + 1 + 1) (.int .u64 0) (.int .u64 0) (.int .u64 0) (.int .u64 0) (.int .u64 0) (.int .u64 0) (.int .u64 0) (.int .u64 0)) := (Lr2.out.up hb4).st4_ne (by omega)
      have b4 : Hid (Below w.heap.size w (st4 w4 k2 (addS (addS h h') ⟨addC l l', 0, 0, 0⟩))) := below_st4 (b2.out.trans (hb4.mono b2.out.size)) (by omega)
      clear L1' L2 Lr2 C2 b2 hb4
      obtain ⟨x0, x1, x2, x3⟩ := L14.out
      obtain ⟨y0, y1, y2, y3⟩ := L24.out
      go_wp2_with fail
      refine (wideOf_fun (addS l l') (addS (addS h h') ⟨addC l l', 0, 0, 0⟩) _).mono ?_
      rintro e w5 ⟨rfl, hb5⟩
      have C5 := Lr4.out.up hb5
      have b5 : Hid (Below w.heap.size w w5) := b4.out.trans (hb5.mono b4.out.size)
      obtain ⟨d0, d1, d2, d3, d4, d5, d6, d7, dz⟩ := C5
      clear L14 L24 Lr4 b4 hb5 x0 x1 x2 x3 y0 y1 y2 y3 c0 c1 c2 c3 cz
      go_wp2_with fail
      refine bodyPost_ret (v := Wv (addS l l') (addS (addS h h') ⟨addC l l', 0, 0, 0⟩)) ?_ rfl ⟨rfl, below_st8 b5.out (by omega)⟩
      obtain ⟨r0, r1, r2, r3, r4, r5, r6, r7⟩ := Cells8.st8_self (l := addS l l') (h := addS (addS h h') ⟨addC l l', 0, 0, 0⟩) ⟨d0, d1, d2, d3, d4, d5, d6, d7, dz⟩
      show (results Try.f6 _).run Try.prog (st8 w5 (w.heap.size + 1 + 1) (addS l l') (addS (addS h h') ⟨addC l l', 0, 0, 0⟩)) = .ok _ (st8 w5 (w.heap.size + 1 + 1) (addS l l') (addS (addS h h') ⟨addC l l', 0, 0, 0⟩))
      generalize st8 w5 (w.heap.size + 1 + 1) (addS l l') (addS (addS h h') ⟨addC l l', 0, 0, 0⟩) = W6 at *
      simp [results, Try.results6, go_sem, r0, r1, r2, r3, r4, r5, r6, r7]
end Go.Proofs.Ytkgkdlgoakgnkab
