/- QuotGcd returns true for every a, b and c, where math/bits's table lies as the program's text lays it. No other condition. -/
import Derived.Test.YtkgkdlgoakgnkabDoorGcd
import Derived.Test.YtkgkdlgoakgnkabDoorMod
import Derived.Test.YtkgkdlgoakgnkabDoorWideF
import Derived.Test.YtkgkdlgoakgnkabDoorHas
import Derived.Test.YtkgkdlgoakgnkabDoorAl
import Derived.Test.YtkgkdlgoakgnkabDoorLaid
import Derived.Test.YtkgkdlgoakgnkabDoorCards
namespace Go.Proofs.YtkgkdlgoakgnkabDoor
open Go.RowKit
open Go.ChangeShapes Go.WideShapes Go.ChangeAt
attribute [local go_sem] World.cell?_alloc_some cell_alloc2 cell_alloc3 cell_alloc4 frozen?_alloc_cells frozen_out

/-- Does c divide a? -/
def dvB (c a : Nm) : Bool := !(c.nat == 0) && (a.nat % c.nat == 0)
set_option maxHeartbeats 1000000 in
theorem divides_walk (c a r : Nm) (e : Int)
    (MA : ∀ w, Calls Tryd.prog 8 #[Wv a ⟨0, 0, 0, 0⟩, N c] w fun e' w' => e' = .returned (.tuple #[N r, .int .i64 e]) ∧ Below w.heap.size w w')
    (w : World) :
    Calls Tryd.prog 6 #[N c, N a] w fun e' w' => e' = .returned (.bool ((e == 0) && Nm.beq r ⟨0, 0, 0, 0⟩)) ∧ Below w.heap.size w w' := by
  have e1 := eqN r ⟨0, 0, 0, 0⟩
  go_enter Tryd.func6, Tryd.ntmps6
  have H0 : Hid (Has (al4 (al4 w c) a) [(w.heap.size + 1, a), (w.heap.size, c)]) := ((Has.nil w).arg rfl).arg (by simp)
  have b0 : Hid (Below w.heap.size w (al4 (al4 w c) a)) := below_al4 (below_al4 (Below.refl _ _) (Nat.le_refl _)) (by simp)
  go_wp2_with fail
  refine wp_region_alloc1 7 (.cells #[.int .u64 0, .int .u64 0, .int .u64 0, .int .u64 0] 24) (by kernel_rfl) (by kernel_rfl) (by kernel_rfl) (by kernel_rfl) (by decide) (fun _ _ d _ _ h => by cases d <;> exact h) rfl rfl (fun _ _ => by kernel_rfl) ?_
  apply Exists.intro
  refine ⟨fun U hU f hf hcl => ?_, fun k1 w1 hb1 hk1 hc1 => ?_⟩
  · have A := fun n => Lies.up (x := a) (k := w.heap.size + 1) (H0.out.at (by simp)) (hf n).out
    have A_a := fun n => (A n).a
    have A_b := fun n => (A n).b
    have A_c := fun n => (A n).c
    have A_d := fun n => (A n).d
    clear A
    have C := fun n => Lies.up (x := c) (k := w.heap.size) (H0.out.at (by simp)) (hf n).out
    have C_a := fun n => (C n).a
    have C_b := fun n => (C n).b
    have C_c := fun n => (C n).c
    have C_d := fun n => (C n).d
    clear C
    clear hf
    simp only [List.take_succ_cons, List.take_zero]
    repeat (go_big_quiet_step (first | (go_at_call 10; exact (wide_fun a _).mono fun e w'' ⟨he, hb⟩ => ⟨he, hcl.out _ _ hb⟩) | (go_at_call 8; exact (MA _).mono fun e w'' ⟨he, hb⟩ => ⟨he, hcl.out _ _ hb⟩)))
    exact wpQuiet_nil rfl
  · simp only [List.drop_succ_cons, List.drop_zero]
    obtain ⟨c0, c1, c2, c3, cz⟩ := cells4 hc1.out
    have b1 : Hid (Below w.heap.size w (st4 w1 k1 r)) := below_st4 (b0.out.trans (hb1.out.mono b0.out.size)) (Nat.le_trans b0.out.size hk1)
    by_cases he : e = 0
    · subst he
      go_wp2_with fail
      go_ret
      exact ⟨by simp, b1.out⟩
    · have he' : (e == 0) = false := beq_eq_false_iff_ne.2 he
      go_wp2_with fail
      go_ret
      exact ⟨by rw [he']; rfl, b1.out⟩
theorem divides_fun (c a : Nm) (oc : c.ok) (oa : a.ok) (w : World) :
    Calls Tryd.prog 6 #[N c, N a] w fun e' w' => e' = .returned (.bool (dvB c a)) ∧ Below w.heap.size w w' := by
  by_cases nz : c = ⟨0, 0, 0, 0⟩
  · subst nz
    exact divides_walk _ a _ _ (mod_zero a ⟨0, 0, 0, 0⟩) w
  · have D := mod_fun a ⟨0, 0, 0, 0⟩ c oa zero_ok oc nz
    rw [V_wide, show c.val.toNat = c.nat from rfl] at D
    refine (divides_walk c a _ _ D w).mono ?_
    rintro e w' ⟨rfl, hb⟩
    refine ⟨?_, hb⟩
    have cp : c.nat ≠ 0 := fun e => nz (Nm.ext_nat oc zero_ok (by rw [e]; rfl))
    have lt : a.nat % c.nat < 2 ^ 256 := Nat.lt_of_le_of_lt (Nat.mod_le _ _) (Nm.nat_lt oa)
    have e : Nm.beq (Nm.of ((a.nat % c.nat : Nat) : Int)) ⟨0, 0, 0, 0⟩ = (a.nat % c.nat == 0) := by
      by_cases h : a.nat % c.nat = 0
      · rw [h]; rfl
      · rw [Nm.beq_ne (fun e => h (by have := congrArg Nm.nat e; rw [Nm.of_nat lt] at this; exact this)), beq_eq_false_iff_ne.2 h]
    rw [e]
    unfold dvB
    rw [beq_eq_false_iff_ne.2 cp]
    rfl
set_option maxHeartbeats 1000000 in
theorem quotGcd_walk (a b c g : Nm) (d1 d2 d3 : Bool) (gz : g ≠ ⟨0, 0, 0, 0⟩) (hd : d1 = true → d2 = true → d3 = true)
    (GA : ∀ w, Tab w → Calls Tryd.prog 5 #[N a, N b] w fun e w' => e = .returned (N g) ∧ Below w.heap.size w w')
    (GB : ∀ w, Tab w → Calls Tryd.prog 5 #[N b, N a] w fun e w' => e = .returned (N g) ∧ Below w.heap.size w w')
    (GC : ∀ w, Tab w → Calls Tryd.prog 5 #[N a, N ⟨0, 0, 0, 0⟩] w fun e w' => e = .returned (N a) ∧ Below w.heap.size w w')
    (DA : ∀ w, Calls Tryd.prog 6 #[N g, N a] w fun e w' => e = .returned (.bool true) ∧ Below w.heap.size w w')
    (DB : ∀ w, Calls Tryd.prog 6 #[N g, N b] w fun e w' => e = .returned (.bool true) ∧ Below w.heap.size w w')
    (D1 : ∀ w, Calls Tryd.prog 6 #[N c, N a] w fun e w' => e = .returned (.bool d1) ∧ Below w.heap.size w w')
    (D2 : ∀ w, Calls Tryd.prog 6 #[N c, N b] w fun e w' => e = .returned (.bool d2) ∧ Below w.heap.size w w')
    (D3 : ∀ w, Calls Tryd.prog 6 #[N c, N g] w fun e w' => e = .returned (.bool d3) ∧ Below w.heap.size w w')
    (w : World) (hT : Tab w) :
    Calls Tryd.prog 3 #[N a, N b, N c] w fun e w' => e = .returned (.bool true) ∧ Below w.heap.size w w' := by
  have T1 : Hid (∀ w1, Below w.heap.size w w1 → Tab w1) := fun w1 hb => hT.below hT.pos hb
  have e1 := neN g g
  have e2 := neN a a
  rw [Nm.beq_self] at e1 e2
  have e3 := eqN g ⟨0, 0, 0, 0⟩
  rw [Nm.beq_ne gz] at e3
  go_enter Tryd.func3, Tryd.ntmps3
  have H0 : Hid (Has (al4 (al4 (al4 w a) b) c) [(w.heap.size + 1 + 1, c), (w.heap.size + 1, b), (w.heap.size, a)]) := (((Has.nil w).arg rfl).arg (by simp)).arg (by simp)
  have b0 : Hid (Below w.heap.size w (al4 (al4 (al4 w a) b) c)) := below_al4 (below_al4 (below_al4 (Below.refl _ _) (Nat.le_refl _)) (by simp)) (by simp; omega)
  go_wp2_with fail
  refine (GA _ (T1.out _ b0.out)).mono ?_
  rintro e w1 ⟨rfl, hb1⟩
  have H1 : Hid (Has (al4 (al4 w1 g) ⟨0, 0, 0, 0⟩) [(w1.heap.size + 1, ⟨0, 0, 0, 0⟩), (w1.heap.size, g), (w.heap.size + 1 + 1, c), (w.heap.size + 1, b), (w.heap.size, a)]) := ((H0.out.up hb1).arg rfl).arg (by simp)
  have b1 : Hid (Below w.heap.size w (al4 (al4 w1 g) ⟨0, 0, 0, 0⟩)) := by
    have q := b0.out.trans (hb1.mono b0.out.size)
    exact below_al4 (below_al4 q q.size) (by rw [size_al4]; have := q.size; omega)
  clear hb1 H0 b0
  go_wp2_with fail
  refine wp_region_up (by kernel_rfl) (by kernel_rfl) (fun U hU f hf hcl => ?_)
  have A := fun n => Lies.up (x := a) (k := w.heap.size) (H1.out.at (by simp)) (hf n).out
  have A_a := fun n => (A n).a
  have A_b := fun n => (A n).b
  have A_c := fun n => (A n).c
  have A_d := fun n => (A n).d
  clear A
  have B := fun n => Lies.up (x := b) (k := w.heap.size + 1) (H1.out.at (by simp)) (hf n).out
  have B_a := fun n => (B n).a
  have B_b := fun n => (B n).b
  have B_c := fun n => (B n).c
  have B_d := fun n => (B n).d
  clear B
  have G := fun n => Lies.up (x := g) (k := w1.heap.size) (H1.out.at (by simp)) (hf n).out
  have G_a := fun n => (G n).a
  have G_b := fun n => (G n).b
  have G_c := fun n => (G n).c
  have G_d := fun n => (G n).d
  clear G
  have Z := fun n => Lies.up (x := ⟨0, 0, 0, 0⟩) (k := w1.heap.size + 1) (H1.out.at (by simp)) (hf n).out
  have Z_a := fun n => (Z n).a
  have Z_b := fun n => (Z n).b
  have Z_c := fun n => (Z n).c
  have Z_d := fun n => (Z n).d
  clear Z
  have TF : ∀ n, Tab (f n) := fun n => T1.out _ (b1.out.trans ((hf n).out.mono b1.out.size))
  repeat (go_big_quiet_step (first | (go_at_call_of 5 b.a; exact (GB _ (TF _)).mono fun e w'' ⟨he, hb⟩ => ⟨he, hcl.out _ _ hb⟩) | (go_at_call 5; exact (GC _ (TF _)).mono fun e w'' ⟨he, hb⟩ => ⟨he, hcl.out _ _ hb⟩)))
  refine wpQuiet_nil ?_
  intro n
  have hb2 := (hf n).out
  generalize f n = w2 at hb2 ⊢
  have H2 : Hid (Has w2 [(w1.heap.size + 1, ⟨0, 0, 0, 0⟩), (w1.heap.size, g), (w.heap.size + 1 + 1, c), (w.heap.size + 1, b), (w.heap.size, a)]) := H1.out.up hb2
  have B2 : Hid (Below w.heap.size w w2) := b1.out.trans (hb2.mono b1.out.size)
  clear hf hcl hb2 TF H1 b1 A_a A_b A_c A_d B_a B_b B_c B_d G_a G_b G_c G_d Z_a Z_b Z_c Z_d
  obtain ⟨z0, z1, z2, z3⟩ := H2.out.at (k := w1.heap.size + 1) (x := ⟨0, 0, 0, 0⟩) (by simp)
  cases d1
  · clear hd
    obtain ⟨a0, a1, a2, a3⟩ := H2.out.at (k := w.heap.size) (x := a) (by simp)
    obtain ⟨b0, b1, b2, b3⟩ := H2.out.at (k := w.heap.size + 1) (x := b) (by simp)
    obtain ⟨c0, c1, c2, c3⟩ := H2.out.at (k := w.heap.size + 1 + 1) (x := c) (by simp)
    obtain ⟨g0, g1, g2, g3⟩ := H2.out.at (k := w1.heap.size) (x := g) (by simp)
    go_wp2_with fail
    clear a0 a1 a2 a3 b0 b1 b2 b3 c0 c1 c2 c3 g0 g1 g2 g3
    refine (DA _).mono ?_
    rintro e w3 ⟨rfl, hb3⟩
    have H3 : Hid (Has w3 [(w1.heap.size + 1, ⟨0, 0, 0, 0⟩), (w1.heap.size, g), (w.heap.size + 1 + 1, c), (w.heap.size + 1, b), (w.heap.size, a)]) := H2.out.up hb3
    have B3 : Hid (Below w.heap.size w w3) := B2.out.trans (hb3.mono B2.out.size)
    clear hb3 H2 B2
    clear z0 z1 z2 z3
    obtain ⟨a0, a1, a2, a3⟩ := H3.out.at (k := w.heap.size) (x := a) (by simp)
    obtain ⟨b0, b1, b2, b3⟩ := H3.out.at (k := w.heap.size + 1) (x := b) (by simp)
    obtain ⟨c0, c1, c2, c3⟩ := H3.out.at (k := w.heap.size + 1 + 1) (x := c) (by simp)
    obtain ⟨g0, g1, g2, g3⟩ := H3.out.at (k := w1.heap.size) (x := g) (by simp)
    go_wp2_with fail
    clear a0 a1 a2 a3 b0 b1 b2 b3 c0 c1 c2 c3 g0 g1 g2 g3
    refine (DB _).mono ?_
    rintro e w4 ⟨rfl, hb4⟩
    have H4 : Hid (Has w4 [(w1.heap.size + 1, ⟨0, 0, 0, 0⟩), (w1.heap.size, g), (w.heap.size + 1 + 1, c), (w.heap.size + 1, b), (w.heap.size, a)]) := H3.out.up hb4
    have B4 : Hid (Below w.heap.size w w4) := B3.out.trans (hb4.mono B3.out.size)
    clear hb4 H3 B3
    obtain ⟨a0, a1, a2, a3⟩ := H4.out.at (k := w.heap.size) (x := a) (by simp)
    obtain ⟨b0, b1, b2, b3⟩ := H4.out.at (k := w.heap.size + 1) (x := b) (by simp)
    obtain ⟨c0, c1, c2, c3⟩ := H4.out.at (k := w.heap.size + 1 + 1) (x := c) (by simp)
    obtain ⟨g0, g1, g2, g3⟩ := H4.out.at (k := w1.heap.size) (x := g) (by simp)
    go_wp2_with fail
    clear a0 a1 a2 a3 b0 b1 b2 b3 c0 c1 c2 c3 g0 g1 g2 g3
    refine (D1 _).mono ?_
    rintro e w5 ⟨rfl, hb5⟩
    have H5 : Hid (Has w5 [(w1.heap.size + 1, ⟨0, 0, 0, 0⟩), (w1.heap.size, g), (w.heap.size + 1 + 1, c), (w.heap.size + 1, b), (w.heap.size, a)]) := H4.out.up hb5
    have B5 : Hid (Below w.heap.size w w5) := B4.out.trans (hb5.mono B4.out.size)
    clear hb5 H4 B4
    go_wp2_with fail
    go_ret
    exact ⟨rfl, B5.out⟩
  · cases d2
    · clear hd
      obtain ⟨a0, a1, a2, a3⟩ := H2.out.at (k := w.heap.size) (x := a) (by simp)
      obtain ⟨b0, b1, b2, b3⟩ := H2.out.at (k := w.heap.size + 1) (x := b) (by simp)
      obtain ⟨c0, c1, c2, c3⟩ := H2.out.at (k := w.heap.size + 1 + 1) (x := c) (by simp)
      obtain ⟨g0, g1, g2, g3⟩ := H2.out.at (k := w1.heap.size) (x := g) (by simp)
      go_wp2_with fail
      clear a0 a1 a2 a3 b0 b1 b2 b3 c0 c1 c2 c3 g0 g1 g2 g3
      refine (DA _).mono ?_
      rintro e w3 ⟨rfl, hb3⟩
      have H3 : Hid (Has w3 [(w1.heap.size + 1, ⟨0, 0, 0, 0⟩), (w1.heap.size, g), (w.heap.size + 1 + 1, c), (w.heap.size + 1, b), (w.heap.size, a)]) := H2.out.up hb3
      have B3 : Hid (Below w.heap.size w w3) := B2.out.trans (hb3.mono B2.out.size)
      clear hb3 H2 B2
      clear z0 z1 z2 z3
      obtain ⟨a0, a1, a2, a3⟩ := H3.out.at (k := w.heap.size) (x := a) (by simp)
      obtain ⟨b0, b1, b2, b3⟩ := H3.out.at (k := w.heap.size + 1) (x := b) (by simp)
      obtain ⟨c0, c1, c2, c3⟩ := H3.out.at (k := w.heap.size + 1 + 1) (x := c) (by simp)
      obtain ⟨g0, g1, g2, g3⟩ := H3.out.at (k := w1.heap.size) (x := g) (by simp)
      go_wp2_with fail
      clear a0 a1 a2 a3 b0 b1 b2 b3 c0 c1 c2 c3 g0 g1 g2 g3
      refine (DB _).mono ?_
      rintro e w4 ⟨rfl, hb4⟩
      have H4 : Hid (Has w4 [(w1.heap.size + 1, ⟨0, 0, 0, 0⟩), (w1.heap.size, g), (w.heap.size + 1 + 1, c), (w.heap.size + 1, b), (w.heap.size, a)]) := H3.out.up hb4
      have B4 : Hid (Below w.heap.size w w4) := B3.out.trans (hb4.mono B3.out.size)
      clear hb4 H3 B3
      obtain ⟨a0, a1, a2, a3⟩ := H4.out.at (k := w.heap.size) (x := a) (by simp)
      obtain ⟨b0, b1, b2, b3⟩ := H4.out.at (k := w.heap.size + 1) (x := b) (by simp)
      obtain ⟨c0, c1, c2, c3⟩ := H4.out.at (k := w.heap.size + 1 + 1) (x := c) (by simp)
      obtain ⟨g0, g1, g2, g3⟩ := H4.out.at (k := w1.heap.size) (x := g) (by simp)
      go_wp2_with fail
      clear a0 a1 a2 a3 b0 b1 b2 b3 c0 c1 c2 c3 g0 g1 g2 g3
      refine (D1 _).mono ?_
      rintro e w5 ⟨rfl, hb5⟩
      have H5 : Hid (Has w5 [(w1.heap.size + 1, ⟨0, 0, 0, 0⟩), (w1.heap.size, g), (w.heap.size + 1 + 1, c), (w.heap.size + 1, b), (w.heap.size, a)]) := H4.out.up hb5
      have B5 : Hid (Below w.heap.size w w5) := B4.out.trans (hb5.mono B4.out.size)
      clear hb5 H4 B4
      obtain ⟨a0, a1, a2, a3⟩ := H5.out.at (k := w.heap.size) (x := a) (by simp)
      obtain ⟨b0, b1, b2, b3⟩ := H5.out.at (k := w.heap.size + 1) (x := b) (by simp)
      obtain ⟨c0, c1, c2, c3⟩ := H5.out.at (k := w.heap.size + 1 + 1) (x := c) (by simp)
      obtain ⟨g0, g1, g2, g3⟩ := H5.out.at (k := w1.heap.size) (x := g) (by simp)
      go_wp2_with fail
      clear a0 a1 a2 a3 b0 b1 b2 b3 c0 c1 c2 c3 g0 g1 g2 g3
      refine (D2 _).mono ?_
      rintro e w6 ⟨rfl, hb6⟩
      have H6 : Hid (Has w6 [(w1.heap.size + 1, ⟨0, 0, 0, 0⟩), (w1.heap.size, g), (w.heap.size + 1 + 1, c), (w.heap.size + 1, b), (w.heap.size, a)]) := H5.out.up hb6
      have B6 : Hid (Below w.heap.size w w6) := B5.out.trans (hb6.mono B5.out.size)
      clear hb6 H5 B5
      go_wp2_with fail
      go_ret
      exact ⟨rfl, B6.out⟩
    · obtain rfl := hd rfl rfl
      clear hd
      obtain ⟨a0, a1, a2, a3⟩ := H2.out.at (k := w.heap.size) (x := a) (by simp)
      obtain ⟨b0, b1, b2, b3⟩ := H2.out.at (k := w.heap.size + 1) (x := b) (by simp)
      obtain ⟨c0, c1, c2, c3⟩ := H2.out.at (k := w.heap.size + 1 + 1) (x := c) (by simp)
      obtain ⟨g0, g1, g2, g3⟩ := H2.out.at (k := w1.heap.size) (x := g) (by simp)
      go_wp2_with fail
      clear a0 a1 a2 a3 b0 b1 b2 b3 c0 c1 c2 c3 g0 g1 g2 g3
      refine (DA _).mono ?_
      rintro e w3 ⟨rfl, hb3⟩
      have H3 : Hid (Has w3 [(w1.heap.size + 1, ⟨0, 0, 0, 0⟩), (w1.heap.size, g), (w.heap.size + 1 + 1, c), (w.heap.size + 1, b), (w.heap.size, a)]) := H2.out.up hb3
      have B3 : Hid (Below w.heap.size w w3) := B2.out.trans (hb3.mono B2.out.size)
      clear hb3 H2 B2
      clear z0 z1 z2 z3
      obtain ⟨a0, a1, a2, a3⟩ := H3.out.at (k := w.heap.size) (x := a) (by simp)
      obtain ⟨b0, b1, b2, b3⟩ := H3.out.at (k := w.heap.size + 1) (x := b) (by simp)
      obtain ⟨c0, c1, c2, c3⟩ := H3.out.at (k := w.heap.size + 1 + 1) (x := c) (by simp)
      obtain ⟨g0, g1, g2, g3⟩ := H3.out.at (k := w1.heap.size) (x := g) (by simp)
      go_wp2_with fail
      clear a0 a1 a2 a3 b0 b1 b2 b3 c0 c1 c2 c3 g0 g1 g2 g3
      refine (DB _).mono ?_
      rintro e w4 ⟨rfl, hb4⟩
      have H4 : Hid (Has w4 [(w1.heap.size + 1, ⟨0, 0, 0, 0⟩), (w1.heap.size, g), (w.heap.size + 1 + 1, c), (w.heap.size + 1, b), (w.heap.size, a)]) := H3.out.up hb4
      have B4 : Hid (Below w.heap.size w w4) := B3.out.trans (hb4.mono B3.out.size)
      clear hb4 H3 B3
      obtain ⟨a0, a1, a2, a3⟩ := H4.out.at (k := w.heap.size) (x := a) (by simp)
      obtain ⟨b0, b1, b2, b3⟩ := H4.out.at (k := w.heap.size + 1) (x := b) (by simp)
      obtain ⟨c0, c1, c2, c3⟩ := H4.out.at (k := w.heap.size + 1 + 1) (x := c) (by simp)
      obtain ⟨g0, g1, g2, g3⟩ := H4.out.at (k := w1.heap.size) (x := g) (by simp)
      go_wp2_with fail
      clear a0 a1 a2 a3 b0 b1 b2 b3 c0 c1 c2 c3 g0 g1 g2 g3
      refine (D1 _).mono ?_
      rintro e w5 ⟨rfl, hb5⟩
      have H5 : Hid (Has w5 [(w1.heap.size + 1, ⟨0, 0, 0, 0⟩), (w1.heap.size, g), (w.heap.size + 1 + 1, c), (w.heap.size + 1, b), (w.heap.size, a)]) := H4.out.up hb5
      have B5 : Hid (Below w.heap.size w w5) := B4.out.trans (hb5.mono B4.out.size)
      clear hb5 H4 B4
      obtain ⟨a0, a1, a2, a3⟩ := H5.out.at (k := w.heap.size) (x := a) (by simp)
      obtain ⟨b0, b1, b2, b3⟩ := H5.out.at (k := w.heap.size + 1) (x := b) (by simp)
      obtain ⟨c0, c1, c2, c3⟩ := H5.out.at (k := w.heap.size + 1 + 1) (x := c) (by simp)
      obtain ⟨g0, g1, g2, g3⟩ := H5.out.at (k := w1.heap.size) (x := g) (by simp)
      go_wp2_with fail
      clear a0 a1 a2 a3 b0 b1 b2 b3 c0 c1 c2 c3 g0 g1 g2 g3
      refine (D2 _).mono ?_
      rintro e w6 ⟨rfl, hb6⟩
      have H6 : Hid (Has w6 [(w1.heap.size + 1, ⟨0, 0, 0, 0⟩), (w1.heap.size, g), (w.heap.size + 1 + 1, c), (w.heap.size + 1, b), (w.heap.size, a)]) := H5.out.up hb6
      have B6 : Hid (Below w.heap.size w w6) := B5.out.trans (hb6.mono B5.out.size)
      clear hb6 H5 B5
      obtain ⟨a0, a1, a2, a3⟩ := H6.out.at (k := w.heap.size) (x := a) (by simp)
      obtain ⟨b0, b1, b2, b3⟩ := H6.out.at (k := w.heap.size + 1) (x := b) (by simp)
      obtain ⟨c0, c1, c2, c3⟩ := H6.out.at (k := w.heap.size + 1 + 1) (x := c) (by simp)
      obtain ⟨g0, g1, g2, g3⟩ := H6.out.at (k := w1.heap.size) (x := g) (by simp)
      go_wp2_with fail
      clear a0 a1 a2 a3 b0 b1 b2 b3 c0 c1 c2 c3 g0 g1 g2 g3
      refine (D3 _).mono ?_
      rintro e w7 ⟨rfl, hb7⟩
      have H7 : Hid (Has w7 [(w1.heap.size + 1, ⟨0, 0, 0, 0⟩), (w1.heap.size, g), (w.heap.size + 1 + 1, c), (w.heap.size + 1, b), (w.heap.size, a)]) := H6.out.up hb7
      have B7 : Hid (Below w.heap.size w w7) := B6.out.trans (hb7.mono B6.out.size)
      clear hb7 H6 B6
      go_wp2_with fail
      go_ret
      exact ⟨rfl, B7.out⟩
set_option maxHeartbeats 1000000 in
theorem quotGcd_zero (c : Nm)
    (GA : ∀ w, Tab w → Calls Tryd.prog 5 #[N ⟨0, 0, 0, 0⟩, N ⟨0, 0, 0, 0⟩] w fun e w' => e = .returned (N ⟨0, 0, 0, 0⟩) ∧ Below w.heap.size w w')
    (w : World) (hT : Tab w) :
    Calls Tryd.prog 3 #[N ⟨0, 0, 0, 0⟩, N ⟨0, 0, 0, 0⟩, N c] w fun e w' => e = .returned (.bool true) ∧ Below w.heap.size w w' := by
  have T1 : Hid (∀ w1, Below w.heap.size w w1 → Tab w1) := fun w1 hb => hT.below hT.pos hb
  have e1 := neN ⟨0, 0, 0, 0⟩ ⟨0, 0, 0, 0⟩
  rw [Nm.beq_self] at e1
  have e3 := eqN ⟨0, 0, 0, 0⟩ ⟨0, 0, 0, 0⟩
  rw [Nm.beq_self] at e3
  go_enter Tryd.func3, Tryd.ntmps3
  have H0 : Hid (Has (al4 (al4 (al4 w ⟨0, 0, 0, 0⟩) ⟨0, 0, 0, 0⟩) c) [(w.heap.size + 1 + 1, c), (w.heap.size + 1, ⟨0, 0, 0, 0⟩), (w.heap.size, ⟨0, 0, 0, 0⟩)]) := (((Has.nil w).arg rfl).arg (by simp)).arg (by simp)
  have b0 : Hid (Below w.heap.size w (al4 (al4 (al4 w ⟨0, 0, 0, 0⟩) ⟨0, 0, 0, 0⟩) c)) := below_al4 (below_al4 (below_al4 (Below.refl _ _) (Nat.le_refl _)) (by simp)) (by simp; omega)
  go_wp2_with fail
  refine (GA _ (T1.out _ b0.out)).mono ?_
  rintro e w1 ⟨rfl, hb1⟩
  have H1 : Hid (Has (al4 (al4 w1 ⟨0, 0, 0, 0⟩) ⟨0, 0, 0, 0⟩) [(w1.heap.size + 1, ⟨0, 0, 0, 0⟩), (w1.heap.size, ⟨0, 0, 0, 0⟩), (w.heap.size + 1 + 1, c), (w.heap.size + 1, ⟨0, 0, 0, 0⟩), (w.heap.size, ⟨0, 0, 0, 0⟩)]) := ((H0.out.up hb1).arg rfl).arg (by simp)
  have b1 : Hid (Below w.heap.size w (al4 (al4 w1 ⟨0, 0, 0, 0⟩) ⟨0, 0, 0, 0⟩)) := by
    have q := b0.out.trans (hb1.mono b0.out.size)
    exact below_al4 (below_al4 q q.size) (by rw [size_al4]; have := q.size; omega)
  clear hb1 H0 b0
  go_wp2_with fail
  refine wp_region_up (by kernel_rfl) (by kernel_rfl) (fun U hU f hf hcl => ?_)
  have A := fun n => Lies.up (x := ⟨0, 0, 0, 0⟩) (k := w.heap.size) (H1.out.at (by simp)) (hf n).out
  have A_a := fun n => (A n).a
  have A_b := fun n => (A n).b
  have A_c := fun n => (A n).c
  have A_d := fun n => (A n).d
  clear A
  have B := fun n => Lies.up (x := ⟨0, 0, 0, 0⟩) (k := w.heap.size + 1) (H1.out.at (by simp)) (hf n).out
  have B_a := fun n => (B n).a
  have B_b := fun n => (B n).b
  have B_c := fun n => (B n).c
  have B_d := fun n => (B n).d
  clear B
  have G := fun n => Lies.up (x := ⟨0, 0, 0, 0⟩) (k := w1.heap.size) (H1.out.at (by simp)) (hf n).out
  have G_a := fun n => (G n).a
  have G_b := fun n => (G n).b
  have G_c := fun n => (G n).c
  have G_d := fun n => (G n).d
  clear G
  have Z := fun n => Lies.up (x := ⟨0, 0, 0, 0⟩) (k := w1.heap.size + 1) (H1.out.at (by simp)) (hf n).out
  have Z_a := fun n => (Z n).a
  have Z_b := fun n => (Z n).b
  have Z_c := fun n => (Z n).c
  have Z_d := fun n => (Z n).d
  clear Z
  have TF : ∀ n, Tab (f n) := fun n => T1.out _ (b1.out.trans ((hf n).out.mono b1.out.size))
  repeat (go_big_quiet_step (first | (go_at_call 5; exact (GA _ (TF _)).mono fun e w'' ⟨he, hb⟩ => ⟨he, hcl.out _ _ hb⟩)))
  refine wpQuiet_nil ?_
  intro n
  have hb2 := (hf n).out
  generalize f n = w2 at hb2 ⊢
  have H2 : Hid (Has w2 [(w1.heap.size + 1, ⟨0, 0, 0, 0⟩), (w1.heap.size, ⟨0, 0, 0, 0⟩), (w.heap.size + 1 + 1, c), (w.heap.size + 1, ⟨0, 0, 0, 0⟩), (w.heap.size, ⟨0, 0, 0, 0⟩)]) := H1.out.up hb2
  have b2 : Hid (Below w.heap.size w w2) := b1.out.trans (hb2.mono b1.out.size)
  clear hf hcl hb2 TF H1 b1 A_a A_b A_c A_d B_a B_b B_c B_d G_a G_b G_c G_d Z_a Z_b Z_c Z_d
  obtain ⟨a0, a1, a2, a3⟩ := H2.out.at (k := w.heap.size) (x := ⟨0, 0, 0, 0⟩) (by simp)
  obtain ⟨b0, b1, b2', b3⟩ := H2.out.at (k := w.heap.size + 1) (x := ⟨0, 0, 0, 0⟩) (by simp)
  obtain ⟨g0, g1, g2, g3⟩ := H2.out.at (k := w1.heap.size) (x := ⟨0, 0, 0, 0⟩) (by simp)
  obtain ⟨z0, z1, z2, z3⟩ := H2.out.at (k := w1.heap.size + 1) (x := ⟨0, 0, 0, 0⟩) (by simp)
  go_wp2_with fail
  go_ret
  exact ⟨rfl, b2.out⟩
theorem quotGcd_law (a b c : Nm) (oa : a.ok) (ob : b.ok) (oc : c.ok) (w : World) (hT : Tab w) :
    Calls Tryd.prog 3 #[N a, N b, N c] w fun e w' => e = .returned (.bool true) ∧ Below w.heap.size w w' := by
  have GA := gcd_fun a b oa ob
  have GB := gcd_fun b a ob oa
  have GC := gcd_fun a ⟨0, 0, 0, 0⟩ oa zero_ok
  rw [Nat.gcd_comm] at GB
  rw [show (⟨0, 0, 0, 0⟩ : Nm).nat = 0 from rfl, Nat.gcd_zero_right, ← Nm.eq_of_nat oa] at GC
  have glt : Nat.gcd a.nat b.nat < 2 ^ 256 := by
    rcases Nat.eq_zero_or_pos b.nat with h | h
    · rw [h, Nat.gcd_zero_right]; exact Nm.nat_lt oa
    · exact Nat.lt_of_le_of_lt (Nat.gcd_le_right _ h) (Nm.nat_lt ob)
  by_cases gz : Nat.gcd a.nat b.nat = 0
  · have ha := Nm.ext_nat oa zero_ok (Nat.eq_zero_of_gcd_eq_zero_left gz)
    have hb := Nm.ext_nat ob zero_ok (Nat.eq_zero_of_gcd_eq_zero_right gz)
    subst ha hb
    exact quotGcd_zero c GC w hT
  have og : (Nm.of ((Nat.gcd a.nat b.nat : Nat) : Int)).ok := Nm.of_ok _
  have gn : (Nm.of ((Nat.gcd a.nat b.nat : Nat) : Int)).nat = Nat.gcd a.nat b.nat := Nm.of_nat glt
  generalize Nm.of ((Nat.gcd a.nat b.nat : Nat) : Int) = g at *
  have DA := divides_fun g a og oa
  have DB := divides_fun g b og ob
  have ea : dvB g a = true := by
    unfold dvB
    rw [gn, beq_eq_false_iff_ne.2 gz, Nat.mod_eq_zero_of_dvd (Nat.gcd_dvd_left _ _)]
    rfl
  have eb : dvB g b = true := by
    unfold dvB
    rw [gn, beq_eq_false_iff_ne.2 gz, Nat.mod_eq_zero_of_dvd (Nat.gcd_dvd_right _ _)]
    rfl
  rw [ea] at DA
  rw [eb] at DB
  refine quotGcd_walk a b c g _ _ _ (fun e => by subst e; exact gz (gn.symm.trans rfl)) ?_ GA GB GC DA DB (divides_fun c a oc oa) (divides_fun c b oc ob) (divides_fun c g oc og) w hT
  intro h1 h2
  unfold dvB at *
  simp only [Bool.and_eq_true, Bool.not_eq_true', beq_eq_false_iff_ne, ne_eq, beq_iff_eq] at *
  refine ⟨h1.1, ?_⟩
  rw [gn]
  exact Nat.mod_eq_zero_of_dvd (Nat.dvd_gcd (Nat.dvd_of_mod_eq_zero h1.2) (Nat.dvd_of_mod_eq_zero h2.2))

set_option maxRecDepth 100000 in
theorem quotGcd_lifted (os : Os) (started : os.Started) (H : Type) (enc : TypeId × Value → H) :
    ReturnsInHanded {} Tryd.checked os 3 .any (fun w args => (Rows.quotGcdSpec.pre enc Tryd.prog Tryd.f3 [] false w args ∧ laidMetH Tryd.prog Rows.quotGcdRow.laid w) ∧ sizedMet enc Tryd.prog Tryd.f3 (OpenSpec.ofChange Rows.quotGcdSpec) false w args) (Rows.quotGcdSpec.post enc Tryd.prog Tryd.f3 false true false false) := by
  refine returnsInHanded_of_change_and (C := Tryd.checked) (X := fun w _ => laidMetH Tryd.prog Rows.quotGcdRow.laid w) (fun _ _ _ hh h => h.of_heap hh) Tryd.own started (by kernel_rfl) Tryd.func3
    (ChangeSpec.witness_shaped (enc := enc) (C := Tryd.checked) (os := os) (X := fun w _ => laidMetH Tryd.prog Rows.quotGcdRow.laid w) false (World.doorLaid Tryd.prog 14 os) #[.agg #[.int .u64 0, .int .u64 0, .int .u64 0, .int .u64 0], .agg #[.int .u64 0, .int .u64 0, .int .u64 0, .int .u64 0], .agg #[.int .u64 0, .int .u64 0, .int .u64 0, .int .u64 0]] 8 rfl (World.shaped_of_RefB (by kernel_rfl) (by kernel_rfl)) (by kernel_rfl) (by kernel_rfl) (by kernel_rfl) (door_met os _)) ?_
  intro W base args ds gs before hval0 hW _ _ hL _
  have hval : ∀ (j : Nat) t v, Tryd.f3.params[j]? = some t → args[j]? = some v → Value.okWide Tryd.prog W .any base t v := hval0
  have hW' := hW
  obtain ⟨p, q, hA0, hV, rfl, hfz, hnd⟩ := hW
  have hA : DataW.TrodAll enc Tryd.prog W 0 (fun _ => true) true Tryd.f3.params.toList args.toList ds p := hA0
  rw [Tryd.params3] at hA hval
  obtain ⟨v0, v1, v2, d0, d1, d2, p0, p1, p2, rfl, rfl, rfl, h0, h1, h2⟩ := trodAll_three hA
  obtain ⟨rfl, rfl⟩ := trodVars_none hV
  obtain ⟨xs0, l0, rfl, rfl, rfl, w0⟩ := open_arr Tryd.underlying24 Tryd.underlying22 Tryd.cellsU64 Tryd.cellsNum (hval 0 24 v0 rfl rfl) h0
  obtain ⟨xs1, l1, rfl, rfl, rfl, w1⟩ := open_arr Tryd.underlying24 Tryd.underlying22 Tryd.cellsU64 Tryd.cellsNum (hval 1 24 v1 rfl rfl) h1
  obtain ⟨xs2, l2, rfl, rfl, rfl, w2⟩ := open_arr Tryd.underlying24 Tryd.underlying22 Tryd.cellsU64 Tryd.cellsNum (hval 2 24 v2 rfl rfl) h2
  clear hA0 hval0 hval hA h0 h1 h2
  obtain ⟨a0, b0, c0, d0, rfl⟩ := list4 xs0 l0
  have ok0 : (⟨a0, b0, c0, d0⟩ : Nm).ok := ⟨word_of_wf (w0 _ (by simp)), word_of_wf (w0 _ (by simp)), word_of_wf (w0 _ (by simp)), word_of_wf (w0 _ (by simp))⟩
  obtain ⟨a1, b1, c1, d1, rfl⟩ := list4 xs1 l1
  have ok1 : (⟨a1, b1, c1, d1⟩ : Nm).ok := ⟨word_of_wf (w1 _ (by simp)), word_of_wf (w1 _ (by simp)), word_of_wf (w1 _ (by simp)), word_of_wf (w1 _ (by simp))⟩
  obtain ⟨a2, b2, c2, d2, rfl⟩ := list4 xs2 l2
  have ok2 : (⟨a2, b2, c2, d2⟩ : Nm).ok := ⟨word_of_wf (w2 _ (by simp)), word_of_wf (w2 _ (by simp)), word_of_wf (w2 _ (by simp)), word_of_wf (w2 _ (by simp))⟩
  simp only [List.append_nil] at hW'
  refine (quotGcd_law ⟨a0, b0, c0, d0⟩ ⟨a1, b1, c1, d1⟩ ⟨a2, b2, c2, d2⟩ ok0 ok1 ok2 W (tab_of_laid hL)).mono fun e W' ⟨he, hg⟩ => ?_
  subst he
  exact ⟨_, rfl, _, _, _, [], [], [], hW', trodAll_mk1 (shut_bool Tryd.underlying4 _), trodAll_mk3 (shut_arr Tryd.underlying24 Tryd.underlying22 Tryd.cellsU64 Tryd.cellsNum l0 w0) (shut_arr Tryd.underlying24 Tryd.underlying22 Tryd.cellsU64 Tryd.cellsNum l1 w1) (shut_arr Tryd.underlying24 Tryd.underlying22 Tryd.cellsU64 Tryd.cellsNum l2 w2), rfl, hg.frame _, fun h => by cases h⟩

theorem quotGcd_holds : Rows.QuotGcdSaid :=
  OpenClaim.holds_of_wide 3 Tryd.f3 rfl rfl rfl rfl rfl rfl rfl ⟨rfl, rfl, rfl, rfl, rfl⟩ rfl rfl rfl rfl rfl (by kernel_rfl) Tryd.func3 (by kernel_rfl)
    (of_decide_eq_true (by kernel_rfl)) (by unfold Func.isWrapper; first | (rw [if_pos (by decide +kernel)]; kernel_rfl) | (rw [if_neg (by decide +kernel)]; exact ⟨rfl, rfl⟩))
    (fun os started H enc _ => quotGcd_lifted os started H enc)

theorem quotGcd_card : Rows.QuotGcdCardSaid :=
  Claim7.holds_tied_plain_at .later [] [.data] true Rows.quotGcdCard.stood.harness false
    quotGcd_holds (fun _ h => by cases h) (by kernel_rfl) (fun _ h => by cases h) quotGcd_row_tie rfl ⟨rfl, rfl⟩ (by kernel_rfl) rfl
    (fun f fn hf hfn => by
      obtain rfl : f = 3 := Option.some.inj ((show Tryd.prog.funcNamed "sealring/sealringkeep.QuotGcd" = some 3 by kernel_rfl).symm.trans hf) |>.symm
      obtain rfl : fn = Tryd.f3 := (Option.some.inj (Tryd.func3.symm.trans hfn)).symm
      exact ⟨by kernel_rfl, fun j t ht => by
        rw [Tryd.params3] at ht
        have hm : t ∈ [24, 24, 24] := by simpa using Array.mem_of_getElem? ht
        have hall : ([24, 24, 24].all fun u => !Tryd.prog.wantsStandIn u) = true := by kernel_rfl
        exact (show Tryd.prog.wantsStandIn t = false by simpa using List.all_eq_true.1 hall t hm)⟩)
    (by kernel_rfl)
#print axioms quotGcd_card
end Go.Proofs.YtkgkdlgoakgnkabDoor
