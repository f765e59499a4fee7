/- LimbBack returns true for every two numbers: what was added and is taken off again is as if nothing had been, and it borrows just if it carried. No condition. -/
import Derived.Test.YtfnpjadfedmjiaaAddSub
import Derived.Test.YtfnpjadfedmjiaaEq
import Derived.Test.YtfnpjadfedmjiaaArr
import Derived.Test.YtfnpjadfedmjiaaOwn
import Derived.ProofKit
import Derived.Deep.RegionHeld
namespace Go.Proofs.Ytfnpjadfedmjiaa
open Go.RowKit
open Go.ChangeShapes Go.WideShapes Go.ChangeAt
attribute [local go_sem] World.cell?_alloc_some

theorem back1 {x y s d : Nm} {c k : Int} (hx : x.ok) (h1 : s.ok ∧ s.val + M * c = x.val + y.val ∧ 0 ≤ c ∧ c ≤ 1) (h2 : d.ok ∧ d.val - M * k = s.val - y.val ∧ 0 ≤ k ∧ k ≤ 1) : x = d ∧ c = k := by
  obtain ⟨o1, e1, p1, q1⟩ := h1
  obtain ⟨o2, e2, p2, q2⟩ := h2
  have := x.val_nonneg hx; have := x.val_lt hx; have := d.val_nonneg o2; have := d.val_lt o2
  have hk : c = k := by unfold M at *; omega
  exact ⟨Nm.ext_val hx o2 (by rw [hk] at e1; omega), hk⟩
theorem back2 {x y s d : Nm} {c k : Int} (hx : x.ok) (h1 : s.ok ∧ s.val - M * c = x.val - y.val ∧ 0 ≤ c ∧ c ≤ 1) (h2 : d.ok ∧ d.val + M * k = s.val + y.val ∧ 0 ≤ k ∧ k ≤ 1) : x = d ∧ c = k := by
  obtain ⟨o1, e1, p1, q1⟩ := h1
  obtain ⟨o2, e2, p2, q2⟩ := h2
  have := x.val_nonneg hx; have := x.val_lt hx; have := d.val_nonneg o2; have := d.val_lt o2
  have hk : c = k := by unfold M at *; omega
  exact ⟨Nm.ext_val hx o2 (by rw [hk] at e1; omega), hk⟩

set_option maxHeartbeats 400000 in
theorem back_walk (x y : Nm) (hx : x.ok) (hy : y.ok) (w : World) :
    Calls Try.prog 5 #[N x, N y] w fun e w' => e = .returned (.bool true) ∧ Below w.heap.size w w' := by
  go_enter Try.func5, Try.ntmps5
  go_wp2_with fail
  refine (add_any x y hx hy _).mono ?_
  rintro e w1 ⟨s, c, rfl, H1, hb1⟩
  have z1 := hb1.size
  simp at z1
  obtain ⟨qw_0_1, qw_1_1, qw_2_1, qw_3_1⟩ := Lies.up (x := x) (k := w.heap.size) (by constructor <;> simp [go_sem]) hb1
  obtain ⟨qw1_0_1, qw1_1_1, qw1_2_1, qw1_3_1⟩ := Lies.up (x := y) (k := w.heap.size + 1) (by constructor <;> simp [go_sem]) hb1
  have b1 : Hid (Below w.heap.size w w1) := by
    refine Below.trans ?_ (hb1.mono (by first | omega | (simp <;> omega)))
    repeat (first | exact Below.refl _ _ | refine Below.drew ?_ | refine Below.setCell ?_ (by first | omega | (simp <;> omega)) _ | refine Below.alloc ?_ (by first | omega | (simp <;> omega)) _)
  clear hb1
  go_wp2_with fail
  refine (sub_any s y H1.out.1 hy _).mono ?_
  rintro e w2 ⟨d, k, rfl, H2, hb2⟩
  have z2 := hb2.size
  simp at z2
  obtain ⟨qw_0_2, qw_1_2, qw_2_2, qw_3_2⟩ := Lies.up (x := x) (k := w.heap.size) (by constructor <;> simp [go_sem, qw_0_1, qw_1_1, qw_2_1, qw_3_1]) hb2
  obtain ⟨qw1_0_2, qw1_1_2, qw1_2_2, qw1_3_2⟩ := Lies.up (x := y) (k := w.heap.size + 1) (by constructor <;> simp [go_sem, qw1_0_1, qw1_1_1, qw1_2_1, qw1_3_1]) hb2
  have b2 : Hid (Below w.heap.size w w2) := by
    refine Below.trans ?_ (hb2.mono (by first | omega | (simp <;> omega)))
    repeat (first | exact b1.out | refine Below.drew ?_ | refine Below.setCell ?_ (by first | omega | (simp <;> omega)) _ | refine Below.alloc ?_ (by first | omega | (simp <;> omega)) _)
  clear hb2 b1 qw_0_1 qw_1_1 qw_2_1 qw_3_1 qw1_0_1 qw1_1_1 qw1_2_1 qw1_3_1
  obtain ⟨rfl, rfl⟩ := back1 hx H1.out H2.out
  go_wp2_with fail
  refine (sub_any x y hx hy _).mono ?_
  rintro e w3 ⟨d, v, rfl, H3, hb3⟩
  have z3 := hb3.size
  simp at z3
  obtain ⟨qw_0_3, qw_1_3, qw_2_3, qw_3_3⟩ := Lies.up (x := x) (k := w.heap.size) (by constructor <;> simp [go_sem, qw_0_2, qw_1_2, qw_2_2, qw_3_2]) hb3
  obtain ⟨qw1_0_3, qw1_1_3, qw1_2_3, qw1_3_3⟩ := Lies.up (x := y) (k := w.heap.size + 1) (by constructor <;> simp [go_sem, qw1_0_2, qw1_1_2, qw1_2_2, qw1_3_2]) hb3
  obtain ⟨qw2_0_3, qw2_1_3, qw2_2_3, qw2_3_3⟩ := Lies.up (x := x) (k := w2.heap.size) (by constructor <;> simp [go_sem]) hb3
  have b3 : Hid (Below w.heap.size w w3) := by
    refine Below.trans ?_ (hb3.mono (by first | omega | (simp <;> omega)))
    repeat (first | exact b2.out | refine Below.drew ?_ | refine Below.setCell ?_ (by first | omega | (simp <;> omega)) _ | refine Below.alloc ?_ (by first | omega | (simp <;> omega)) _)
  clear hb3 b2 qw_0_2 qw_1_2 qw_2_2 qw_3_2 qw1_0_2 qw1_1_2 qw1_2_2 qw1_3_2
  go_wp2_with fail
  refine (add_any d y H3.out.1 hy _).mono ?_
  rintro e w4 ⟨f, g, rfl, H4, hb4⟩
  have z4 := hb4.size
  simp at z4
  obtain ⟨qw_0_4, qw_1_4, qw_2_4, qw_3_4⟩ := Lies.up (x := x) (k := w.heap.size) (by constructor <;> simp [go_sem, qw_0_3, qw_1_3, qw_2_3, qw_3_3]) hb4
  obtain ⟨qw2_0_4, qw2_1_4, qw2_2_4, qw2_3_4⟩ := Lies.up (x := x) (k := w2.heap.size) (by constructor <;> simp [go_sem, qw2_0_3, qw2_1_3, qw2_2_3, qw2_3_3]) hb4
  have b4 : Hid (Below w.heap.size w w4) := by
    refine Below.trans ?_ (hb4.mono (by first | omega | (simp <;> omega)))
    repeat (first | exact b3.out | refine Below.drew ?_ | refine Below.setCell ?_ (by first | omega | (simp <;> omega)) _ | refine Below.alloc ?_ (by first | omega | (simp <;> omega)) _)
  clear hb4 b3 qw_0_3 qw_1_3 qw_2_3 qw_3_3 qw1_0_3 qw1_1_3 qw1_2_3 qw1_3_3 qw2_0_3 qw2_1_3 qw2_2_3 qw2_3_3
  obtain ⟨rfl, rfl⟩ := back2 hx H3.out H4.out
  have c1 : c ≤ 1 := H1.out.2.2.2
  have v1 : v ≤ 1 := H3.out.2.2.2
  have he := eqN x x
  have hr := Nm.beq_self x
  go_wp2_with fail
  go_ret
  refine ⟨rfl, ?_⟩
  repeat (first | exact b4.out | refine Below.drew ?_ | refine Below.setCell ?_ (by first | omega | (simp <;> omega)) _ | refine Below.alloc ?_ (by first | omega | (simp <;> omega)) _)

set_option maxRecDepth 100000 in
theorem limbBack_lifted (os : Os) (started : os.Started) (H : Type) (enc : TypeId × Value → H) :
    ReturnsInHanded {} Try.checked os 5 .any (Rows.limbBackSpec.pre6 enc Try.prog Try.f5 Rows.limbBackRow.domain false) (Rows.limbBackSpec.post enc Try.prog Try.f5 false true false false) := by
  refine returnsInHanded_of_change (C := Try.checked) Try.own started (by kernel_rfl) Try.func5
    (ChangeSpec.witness6 (enc := enc) (C := Try.checked) false ⟨#[], #[.agg #[.int .u64 0, .int .u64 0, .int .u64 0, .int .u64 0], .agg #[.int .u64 0, .int .u64 0, .int .u64 0, .int .u64 0]], []⟩ 8 (by kernel_rfl) (by kernel_rfl) (by kernel_rfl) (by kernel_rfl)) ?_
  intro W base args ds gs before hval0 hW hcnd _
  have hval : ∀ (j : Nat) t v, Try.f5.params[j]? = some t → args[j]? = some v → Value.okWide Try.prog W .any base t v := hval0
  have hW' := hW
  obtain ⟨p, q, hA0, hV, rfl, hfz, hnd⟩ := hW
  have hA : DataW.TrodAll enc Try.prog W 0 (fun _ => true) true Try.f5.params.toList args.toList ds p := hA0
  rw [Try.params5] at hA hval
  obtain ⟨v0, v1, d0, d1, p0, p1, rfl, rfl, rfl, h0, h1⟩ := trodAll_two hA
  obtain ⟨rfl, rfl⟩ := trodVars_none hV
  obtain ⟨xs0, l0, rfl, rfl, rfl, w0⟩ := open_arr Try.underlying24 Try.underlying22 Try.cellsU64 Try.cellsNum (hval 0 24 v0 rfl rfl) h0
  obtain ⟨xs1, l1, rfl, rfl, rfl, w1⟩ := open_arr Try.underlying24 Try.underlying22 Try.cellsU64 Try.cellsNum (hval 1 24 v1 rfl rfl) h1
  clear hA0 hval0 hval hA h0 h1
  obtain ⟨a0, b0, c0, d0, rfl⟩ := list4 xs0 l0
  have ok0 : (⟨a0, b0, c0, d0⟩ : Nm).ok := ⟨word_of_wf (w0 _ (by simp)), word_of_wf (w0 _ (by simp)), word_of_wf (w0 _ (by simp)), word_of_wf (w0 _ (by simp))⟩
  obtain ⟨a1, b1, c1, d1, rfl⟩ := list4 xs1 l1
  have ok1 : (⟨a1, b1, c1, d1⟩ : Nm).ok := ⟨word_of_wf (w1 _ (by simp)), word_of_wf (w1 _ (by simp)), word_of_wf (w1 _ (by simp)), word_of_wf (w1 _ (by simp))⟩
  simp only [List.append_nil] at hW'
  refine (back_walk ⟨a0, b0, c0, d0⟩ ⟨a1, b1, c1, d1⟩ ok0 ok1 W).mono fun e W' ⟨he, hg⟩ => ?_
  subst he
  exact ⟨_, rfl, _, _, _, [], [], [], hW', trodAll_mk1 (shut_bool Try.underlying4 _), trodAll_mk2 (shut_arr Try.underlying24 Try.underlying22 Try.cellsU64 Try.cellsNum l0 w0) (shut_arr Try.underlying24 Try.underlying22 Try.cellsU64 Try.cellsNum l1 w1), rfl, hg.frame _, fun h => by cases h⟩

theorem limbBack_holds : Rows.LimbBackSaid :=
  OpenClaim.holds_of_wide 5 Try.f5 rfl rfl rfl rfl rfl rfl rfl ⟨rfl, rfl, rfl, rfl, rfl⟩ rfl rfl rfl rfl rfl (by kernel_rfl) Try.func5 (by kernel_rfl)
    (of_decide_eq_true (by kernel_rfl)) (by unfold Func.isWrapper; first | (rw [if_pos (by decide +kernel)]; kernel_rfl) | (rw [if_neg (by decide +kernel)]; exact ⟨rfl, rfl⟩))
    (fun os started H enc _ => limbBack_lifted os started H enc)
#print axioms limbBack_holds
end Go.Proofs.Ytfnpjadfedmjiaa
