/- QuotOnly returns true for every q, m and r. No condition. -/
import Derived.Test.YtkgkdlgoakgnkaaDivMod
import Derived.Test.YtkgkdlgoakgnkaaKeepV
import Derived.Test.YtkgkdlgoakgnkaaAl
import Derived.Test.YtkgkdlgoakgnkaaArr
import Derived.Test.YtkgkdlgoakgnkaaOwn
namespace Go.Proofs.Ytkgkdlgoakgnkaa
open Go.RowKit
open Go.ChangeShapes Go.WideShapes Go.ChangeAt
attribute [local go_sem] World.cell?_alloc_some cell_alloc2 cell_alloc3 cell_alloc4 frozen?_alloc_cells frozen_out

theorem seven : WL (V ⟨7, 0, 0, 0⟩ ⟨0, 0, 0, 0⟩ / (⟨2, 0, 0, 0⟩ : Nm).val.toNat) = ⟨3, 0, 0, 0⟩ ∧ WH (V ⟨7, 0, 0, 0⟩ ⟨0, 0, 0, 0⟩ / (⟨2, 0, 0, 0⟩ : Nm).val.toNat) = ⟨0, 0, 0, 0⟩ ∧ Nm.of ((V ⟨7, 0, 0, 0⟩ ⟨0, 0, 0, 0⟩ % (⟨2, 0, 0, 0⟩ : Nm).val.toNat : Nat) : Int) = ⟨1, 0, 0, 0⟩ := by
  exact ⟨rfl, rfl, rfl⟩
set_option maxHeartbeats 400000 in
theorem quots_any (w : World) : Calls Try.prog 37 #[] w fun e w' => e = .returned (.bool true) ∧ Below w.heap.size w w' := by
  have z : Word 0 := ⟨by decide, by decide⟩
  have D := divmod_fun ⟨7, 0, 0, 0⟩ ⟨0, 0, 0, 0⟩ ⟨2, 0, 0, 0⟩ ⟨⟨by decide, by decide⟩, z, z, z⟩ zero_ok ⟨⟨by decide, by decide⟩, z, z, z⟩ (by simp)
  rw [seven.1, seven.2.1, seven.2.2] at D
  have e1 := eqW ⟨3, 0, 0, 0⟩ ⟨0, 0, 0, 0⟩ ⟨3, 0, 0, 0⟩ ⟨0, 0, 0, 0⟩
  have e2 := eqN ⟨1, 0, 0, 0⟩ ⟨1, 0, 0, 0⟩
  rw [Nm.beq_self, Nm.beq_self] at e1
  rw [Nm.beq_self] at e2
  go_enter Try.func37, Try.ntmps37
  go_wp2_with fail
  refine (D _).mono ?_
  rintro e w1 ⟨rfl, hb1⟩
  have z1 := hb1.size
  try simp at z1
  have b1 : Hid (Below w.heap.size w w1) := by
    refine Below.trans ?_ (hb1.mono (by first | omega | (simp <;> omega)))
    repeat (first | exact Below.refl _ _ | refine Below.drew ?_ | refine Below.setCell ?_ (by first | omega | (simp <;> omega)) _ | refine Below.alloc ?_ (by first | omega | (simp <;> omega)) _)
  clear hb1
  go_wp2_with fail
  go_ret
  refine ⟨rfl, ?_⟩
  repeat (first | exact b1.out | refine Below.drew ?_ | refine Below.setCell ?_ (by first | omega | (simp <;> omega)) _ | refine Below.alloc ?_ (by first | omega | (simp <;> omega)) _)
set_option maxHeartbeats 1000000 in
theorem quotOnly_out (q m r : Nm) (c : Int) (hc : c ≥ 0)
    (SC : ∀ w, Calls Try.prog 19 #[N r, N m] w fun e w' => e = .returned (.int .i64 c) ∧ Below w.heap.size w w') (w : World) :
    Calls Try.prog 7 #[N q, N m, N r] w fun e w' => e = .returned (.bool true) ∧ Below w.heap.size w w' := by
  go_enter Try.func7, Try.ntmps7
  go_wp2_with fail
  refine (quots_any _).mono ?_
  rintro e w1 ⟨rfl, hb1⟩
  have z1 := hb1.size
  try simp at z1
  obtain ⟨qw1_0_1, qw1_1_1, qw1_2_1, qw1_3_1⟩ := Lies.up (x := m) (k := w.heap.size + 1) (by constructor <;> first | assumption | simp [go_sem]) hb1
  obtain ⟨qw11_0_1, qw11_1_1, qw11_2_1, qw11_3_1⟩ := Lies.up (x := r) (k := w.heap.size + 1 + 1) (by constructor <;> first | assumption | simp [go_sem]) hb1
  have b1 : Hid (Below w.heap.size w w1) := by
    refine Below.trans ?_ (hb1.mono (by first | omega | (simp <;> omega)))
    repeat (first | exact Below.refl _ _ | refine Below.drew ?_ | refine Below.setCell ?_ (by first | omega | (simp <;> omega)) _ | refine Below.alloc ?_ (by first | omega | (simp <;> omega)) _)
  clear hb1
  go_wp2_with fail
  refine (SC _).mono ?_
  rintro e w2 ⟨rfl, hb2⟩
  have z2 := hb2.size
  try simp at z2
  have b2 : Hid (Below w.heap.size w w2) := by
    refine Below.trans ?_ (hb2.mono (by first | omega | (simp <;> omega)))
    repeat (first | exact b1.out | refine Below.drew ?_ | refine Below.setCell ?_ (by first | omega | (simp <;> omega)) _ | refine Below.alloc ?_ (by first | omega | (simp <;> omega)) _)
  clear hb2 b1 qw1_0_1 qw1_1_1 qw1_2_1 qw1_3_1 qw11_0_1 qw11_1_1 qw11_2_1 qw11_3_1
  go_wp2_with fail
  go_ret
  refine ⟨rfl, ?_⟩
  repeat (first | exact b2.out | refine Below.drew ?_ | refine Below.setCell ?_ (by first | omega | (simp <;> omega)) _ | refine Below.alloc ?_ (by first | omega | (simp <;> omega)) _)
set_option maxHeartbeats 1000000 in
theorem quotOnly_walk (q m r pl ph sl sh : Nm) (c : Int) (hc : c < 0)
    (SC : ∀ w, Calls Try.prog 19 #[N r, N m] w fun e w' => e = .returned (.int .i64 c) ∧ Below w.heap.size w w')
    (SM : ∀ w, Calls Try.prog 16 #[N q, N m] w fun e w' => e = .returned (Wv pl ph) ∧ Below w.heap.size w w')
    (SP : ∀ w, Calls Try.prog 35 #[Wv pl ph, Wv r ⟨0, 0, 0, 0⟩] w fun e w' => e = .returned (Wv sl sh) ∧ Below w.heap.size w w')
    (SD : ∀ w, Calls Try.prog 34 #[Wv sl sh, N m] w fun e w' => e = .returned (.tuple #[Wv q ⟨0, 0, 0, 0⟩, N r, .int .i64 0]) ∧ Below w.heap.size w w')
    (w : World) :
    Calls Try.prog 7 #[N q, N m, N r] w fun e w' => e = .returned (.bool true) ∧ Below w.heap.size w w' := by
  have e1 := eqW q ⟨0, 0, 0, 0⟩ q ⟨0, 0, 0, 0⟩
  have e2 := eqN r r
  rw [Nm.beq_self, Nm.beq_self] at e1
  rw [Nm.beq_self] at e2
  go_enter Try.func7, Try.ntmps7
  go_wp2_with fail
  refine (quots_any _).mono ?_
  rintro e w1 ⟨rfl, hb1⟩
  have z1 := hb1.size
  try simp at z1
  obtain ⟨qw_0_1, qw_1_1, qw_2_1, qw_3_1⟩ := Lies.up (x := q) (k := w.heap.size) (by constructor <;> first | assumption | simp [go_sem]) hb1
  obtain ⟨qw1_0_1, qw1_1_1, qw1_2_1, qw1_3_1⟩ := Lies.up (x := m) (k := w.heap.size + 1) (by constructor <;> first | assumption | simp [go_sem]) hb1
  obtain ⟨qw11_0_1, qw11_1_1, qw11_2_1, qw11_3_1⟩ := Lies.up (x := r) (k := w.heap.size + 1 + 1) (by constructor <;> first | assumption | simp [go_sem]) hb1
  have b1 : Hid (Below w.heap.size w w1) := by
    refine Below.trans ?_ (hb1.mono (by first | omega | (simp <;> omega)))
    repeat (first | exact Below.refl _ _ | refine Below.drew ?_ | refine Below.setCell ?_ (by first | omega | (simp <;> omega)) _ | refine Below.alloc ?_ (by first | omega | (simp <;> omega)) _)
  clear hb1
  go_wp2_with fail
  refine (SC _).mono ?_
  rintro e w2 ⟨rfl, hb2⟩
  have z2 := hb2.size
  have Lq : Hid (Lies w2 w.heap.size q) := Lies.up (by constructor <;> assumption) hb2
  have Lm : Hid (Lies w2 (w.heap.size + 1) m) := Lies.up (by constructor <;> assumption) hb2
  have Lr : Hid (Lies w2 (w.heap.size + 1 + 1) r) := Lies.up (by constructor <;> assumption) hb2
  have b2 : Hid (Below w.heap.size w w2) := b1.out.trans (hb2.mono b1.out.size)
  clear hb2
  go_wp2_with fail
  refine wp_region_alloc2 12 (.cells #[.int .u64 0, .int .u64 0, .int .u64 0, .int .u64 0, .int .u64 0, .int .u64 0, .int .u64 0, .int .u64 0] 34) (.cells #[.int .u64 0, .int .u64 0, .int .u64 0, .int .u64 0] 24) (by kernel_rfl) (by kernel_rfl) (by kernel_rfl) (by kernel_rfl) (by decide) (fun _ _ d _ _ h => by cases d <;> exact h) rfl rfl rfl rfl (by decide) (fun _ _ => by kernel_rfl) (fun _ _ => by kernel_rfl) ?_
  apply Exists.intro
  refine ⟨fun U hU f hf hcl => ?_, fun k3 j3 w3 hb3 hk3 hj3 hn3 hc3 hd3 => ?_⟩
  · have A := fun n => Lies.up (x := q) (k := w.heap.size) Lq.out (hf n).out
    have A_a := fun n => (A n).a
    have A_b := fun n => (A n).b
    have A_c := fun n => (A n).c
    have A_d := fun n => (A n).d
    clear A
    have B := fun n => Lies.up (x := m) (k := w.heap.size + 1) Lm.out (hf n).out
    have B_a := fun n => (B n).a
    have B_b := fun n => (B n).b
    have B_c := fun n => (B n).c
    have B_d := fun n => (B n).d
    clear B
    have C := fun n => Lies.up (x := r) (k := w.heap.size + 1 + 1) Lr.out (hf n).out
    have C_a := fun n => (C n).a
    have C_b := fun n => (C n).b
    have C_c := fun n => (C n).c
    have C_d := fun n => (C n).d
    clear C
    clear hf
    simp only [List.take_succ_cons, List.take_zero]
    repeat (go_big_quiet_step (first | (go_at_call 16; exact (SM _).mono fun e w'' ⟨he, hb⟩ => ⟨he, hcl.out _ _ hb⟩) | (go_at_call 36; exact (wide_fun r _).mono fun e w'' ⟨he, hb⟩ => ⟨he, hcl.out _ _ hb⟩) | (go_at_call 35; exact (SP _).mono fun e w'' ⟨he, hb⟩ => ⟨he, hcl.out _ _ hb⟩) | (go_at_call 34; exact (SD _).mono fun e w'' ⟨he, hb⟩ => ⟨he, hcl.out _ _ hb⟩)))
    exact wpQuiet_nil rfl
  · simp only [List.drop_succ_cons, List.drop_zero]
    obtain ⟨c0, c1, c2, c3, c4, c5, c6, c7, cz⟩ := cells8 hc3.out
    obtain ⟨d0, d1, d2, d3, dz⟩ := cells4 hd3.out
    have z3 := hb3.out.size
    have z1 := b2.out.size
    have nkj : ¬ k3 = j3 := hn3.out
    have njk : ¬ j3 = k3 := fun h => hn3.out h.symm
    have Lq3 : Hid (Lies (st4 (st8 w3 k3 q ⟨0, 0, 0, 0⟩) j3 r) w.heap.size q) := ((Lq.out.up hb3.out).st8_ne (by omega)).st4_ne (by omega)
    have Lr3 : Hid (Lies (st4 (st8 w3 k3 q ⟨0, 0, 0, 0⟩) j3 r) (w.heap.size + 1 + 1) r) := ((Lr.out.up hb3.out).st8_ne (by omega)).st4_ne (by omega)
    have La3 : Hid (Lies8 (st4 (st8 w3 k3 q ⟨0, 0, 0, 0⟩) j3 r) k3 q ⟨0, 0, 0, 0⟩) := (Lies8.st8_self hc3.out _ _).st4_ne njk
    have Lb3 : Hid (Lies (st4 (st8 w3 k3 q ⟨0, 0, 0, 0⟩) j3 r) j3 r) := (((cells4 hd3.out).st4_ne nkj).set_ne nkj |>.set_ne nkj |>.set_ne nkj |>.set_ne nkj).st4_self.lies
    have b3 : Hid (Below w.heap.size w (st4 (st8 w3 k3 q ⟨0, 0, 0, 0⟩) j3 r)) := below_st4 (below_st8 (b2.out.trans (hb3.out.mono z1)) (by omega)) (by omega)
    go_wp2_with fail
    clear c0 c1 c2 c3 c4 c5 c6 c7 cz d0 d1 d2 d3 dz hc3 hd3 hb3 Lq Lm Lr b2
    refine wp_region_up (by kernel_rfl) (by kernel_rfl) (fun U hU f hf hcl => ?_)
    have A := fun n => Lies.up (x := q) (k := w.heap.size) Lq3.out (hf n).out
    have A_a := fun n => (A n).a
    have A_b := fun n => (A n).b
    have A_c := fun n => (A n).c
    have A_d := fun n => (A n).d
    clear A
    have C := fun n => Lies.up (x := r) (k := w.heap.size + 1 + 1) Lr3.out (hf n).out
    have C_a := fun n => (C n).a
    have C_b := fun n => (C n).b
    have C_c := fun n => (C n).c
    have C_d := fun n => (C n).d
    clear C
    have D := fun n => Lies8.up (l := q) (h := ⟨0, 0, 0, 0⟩) (k := k3) La3.out (hf n).out
    have D_a := fun n => (D n).a
    have D_b := fun n => (D n).b
    have D_c := fun n => (D n).c
    have D_d := fun n => (D n).d
    have D_e := fun n => (D n).e
    have D_f := fun n => (D n).f
    have D_g := fun n => (D n).g
    have D_i := fun n => (D n).i
    clear D
    have E := fun n => Lies.up (x := r) (k := j3) Lb3.out (hf n).out
    have E_a := fun n => (E n).a
    have E_b := fun n => (E n).b
    have E_c := fun n => (E n).c
    have E_d := fun n => (E n).d
    clear E
    repeat (go_big_quiet_step (first | (go_at_call 36; exact (wide_fun q _).mono fun e w'' ⟨he, hb⟩ => ⟨he, hcl.out _ _ hb⟩)))
    refine wpQuiet_nil ?_
    intro n
    have hb4 := (hf n).out
    generalize f n = w4 at hb4 ⊢
    have b4 : Hid (Below w.heap.size w w4) := b3.out.trans (hb4.mono b3.out.size)
    clear hb4 hf hcl b3 Lq3 Lr3 La3 Lb3
    go_wp2_with fail
    go_ret
    exact ⟨rfl, b4.out⟩

theorem quotOnly_law (q m r : Nm) (oq : q.ok) (om : m.ok) (or : r.ok) (w : World) :
    Calls Try.prog 7 #[N q, N m, N r] w fun e w' => e = .returned (.bool true) ∧ Below w.heap.size w w' := by
  have C := cmp_fun r m or om
  have ev : cmpV r m = if r.val < m.val then -1 else if m.val < r.val then 1 else 0 := rfl
  rw [← Nm.nat_cast or, ← Nm.nat_cast om] at ev
  by_cases h : r.nat < m.nat
  · have m1 := Nm.nat_lt om
    have q1 := Nm.nat_lt oq
    have nz : m ≠ ⟨0, 0, 0, 0⟩ := fun e => by subst e; simp [Nm.nat, Nm.val] at h
    have p1 := mul_lt512 oq om
    have p2 : q.nat * m.nat + r.nat < 2 ^ 512 := by
      have : (q.nat + 1) * m.nat ≤ 2 ^ 256 * 2 ^ 256 := Nat.mul_le_mul (by omega) (by omega)
      rw [Nat.add_mul, ← pow512'] at this
      omega
    have P := plus_V (WL (q.nat * m.nat)) (WH (q.nat * m.nat)) r ⟨0, 0, 0, 0⟩ (WL_ok _) (WH_ok _) or zero_ok (by rw [V_of p1, V_wide]; exact p2)
    rw [V_of p1, V_wide] at P
    have D := divmod_fun (WL (q.nat * m.nat + r.nat)) (WH (q.nat * m.nat + r.nat)) m (WL_ok _) (WH_ok _) om nz
    rw [V_of p2, show m.val.toNat = m.nat from rfl, Nat.mul_comm q.nat, Nat.mul_add_mod, Nat.mul_add_div (by omega), Nat.div_eq_of_lt h, Nat.mod_eq_of_lt h, Nat.add_zero, WL_small q1, WH_small q1, ← Nm.eq_of_nat oq, ← Nm.eq_of_nat or, Nat.mul_comm m.nat] at D
    refine quotOnly_walk q m r _ _ _ _ _ ?_ C (mul_V q m oq om) P D w
    rw [ev, if_pos (Int.ofNat_lt.2 h)]
    decide
  · refine quotOnly_out q m r _ ?_ C w
    rw [ev, if_neg (fun e => h (Int.ofNat_lt.1 e))]
    split <;> decide

set_option maxRecDepth 100000 in
theorem quotOnly_lifted (os : Os) (started : os.Started) (H : Type) (enc : TypeId × Value → H) :
    ReturnsInHanded {} Try.checked os 7 .any (Rows.quotOnlySpec.pre6 enc Try.prog Try.f7 Rows.quotOnlyRow.domain false) (Rows.quotOnlySpec.post enc Try.prog Try.f7 false true false false) := by
  refine returnsInHanded_of_change (C := Try.checked) Try.own started (by kernel_rfl) Try.func7
    (ChangeSpec.witness6 (enc := enc) (C := Try.checked) false ⟨#[], #[.agg #[.int .u64 0, .int .u64 0, .int .u64 0, .int .u64 0], .agg #[.int .u64 0, .int .u64 0, .int .u64 0, .int .u64 0], .agg #[.int .u64 0, .int .u64 0, .int .u64 0, .int .u64 0]], []⟩ 8 (by kernel_rfl) (by kernel_rfl) (by kernel_rfl) (by kernel_rfl)) ?_
  intro W base args ds gs before hval0 hW hcnd _
  have hval : ∀ (j : Nat) t v, Try.f7.params[j]? = some t → args[j]? = some v → Value.okWide Try.prog W .any base t v := hval0
  have hW' := hW
  obtain ⟨p, q, hA0, hV, rfl, hfz, hnd⟩ := hW
  have hA : DataW.TrodAll enc Try.prog W 0 (fun _ => true) true Try.f7.params.toList args.toList ds p := hA0
  rw [Try.params7] at hA hval
  obtain ⟨v0, v1, v2, d0, d1, d2, p0, p1, p2, rfl, rfl, rfl, h0, h1, h2⟩ := trodAll_three hA
  obtain ⟨rfl, rfl⟩ := trodVars_none hV
  obtain ⟨xs0, l0, rfl, rfl, rfl, w0⟩ := open_arr Try.underlying24 Try.underlying22 Try.cellsU64 Try.cellsNum (hval 0 24 v0 rfl rfl) h0
  obtain ⟨xs1, l1, rfl, rfl, rfl, w1⟩ := open_arr Try.underlying24 Try.underlying22 Try.cellsU64 Try.cellsNum (hval 1 24 v1 rfl rfl) h1
  obtain ⟨xs2, l2, rfl, rfl, rfl, w2⟩ := open_arr Try.underlying24 Try.underlying22 Try.cellsU64 Try.cellsNum (hval 2 24 v2 rfl rfl) h2
  clear hA0 hval0 hval hA h0 h1 h2
  obtain ⟨a0, b0, c0, d0, rfl⟩ := list4 xs0 l0
  have ok0 : (⟨a0, b0, c0, d0⟩ : Nm).ok := ⟨word_of_wf (w0 _ (by simp)), word_of_wf (w0 _ (by simp)), word_of_wf (w0 _ (by simp)), word_of_wf (w0 _ (by simp))⟩
  obtain ⟨a1, b1, c1, d1, rfl⟩ := list4 xs1 l1
  have ok1 : (⟨a1, b1, c1, d1⟩ : Nm).ok := ⟨word_of_wf (w1 _ (by simp)), word_of_wf (w1 _ (by simp)), word_of_wf (w1 _ (by simp)), word_of_wf (w1 _ (by simp))⟩
  obtain ⟨a2, b2, c2, d2, rfl⟩ := list4 xs2 l2
  have ok2 : (⟨a2, b2, c2, d2⟩ : Nm).ok := ⟨word_of_wf (w2 _ (by simp)), word_of_wf (w2 _ (by simp)), word_of_wf (w2 _ (by simp)), word_of_wf (w2 _ (by simp))⟩
  simp only [List.append_nil] at hW'
  refine (quotOnly_law ⟨a0, b0, c0, d0⟩ ⟨a1, b1, c1, d1⟩ ⟨a2, b2, c2, d2⟩ ok0 ok1 ok2 W).mono fun e W' ⟨he, hg⟩ => ?_
  subst he
  exact ⟨_, rfl, _, _, _, [], [], [], hW', trodAll_mk1 (shut_bool Try.underlying4 _), trodAll_mk3 (shut_arr Try.underlying24 Try.underlying22 Try.cellsU64 Try.cellsNum l0 w0) (shut_arr Try.underlying24 Try.underlying22 Try.cellsU64 Try.cellsNum l1 w1) (shut_arr Try.underlying24 Try.underlying22 Try.cellsU64 Try.cellsNum l2 w2), rfl, hg.frame _, fun h => by cases h⟩

theorem quotOnly_holds : Rows.QuotOnlySaid :=
  OpenClaim.holds_of_wide 7 Try.f7 rfl rfl rfl rfl rfl rfl rfl ⟨rfl, rfl, rfl, rfl, rfl⟩ rfl rfl rfl rfl rfl (by kernel_rfl) Try.func7 (by kernel_rfl)
    (of_decide_eq_true (by kernel_rfl)) (by unfold Func.isWrapper; first | (rw [if_pos (by decide +kernel)]; kernel_rfl) | (rw [if_neg (by decide +kernel)]; exact ⟨rfl, rfl⟩))
    (fun os started H enc _ => quotOnly_lifted os started H enc)
#print axioms quotOnly_holds
end Go.Proofs.Ytkgkdlgoakgnkaa
