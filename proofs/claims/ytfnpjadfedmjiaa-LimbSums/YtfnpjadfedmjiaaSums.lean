/- LimbSums returns true for every three numbers: in whatever order three are added, the sum is the same, and so is how often it carries. No condition. -/
import Derived.Test.YtfnpjadfedmjiaaKeep
import Derived.Test.YtfnpjadfedmjiaaArr
import Derived.Test.YtfnpjadfedmjiaaOwn
namespace Go.Proofs.Ytfnpjadfedmjiaa
open Go.RowKit
open Go.ChangeShapes Go.WideShapes Go.ChangeAt
attribute [local go_sem] World.cell?_alloc_some

set_option maxHeartbeats 400000 in
theorem sums_walk (x y z : Nm) (hx : x.ok) (hy : y.ok) (hz : z.ok) (w : World) :
    Calls Try.prog 6 #[N x, N y, N z] w fun e w' => e = .returned (.bool true) ∧ Below w.heap.size w w' := by
  go_enter Try.func6, Try.ntmps6
  go_wp2_with fail
  refine (limbs_any _).mono ?_
  rintro e w1 ⟨rfl, hb1⟩
  have z1 := hb1.size
  try simp at z1
  obtain ⟨qw_0_1, qw_1_1, qw_2_1, qw_3_1⟩ := Lies.up (x := x) (k := w.heap.size) (by constructor <;> simp [go_sem]) hb1
  obtain ⟨qw1_0_1, qw1_1_1, qw1_2_1, qw1_3_1⟩ := Lies.up (x := y) (k := w.heap.size + 1) (by constructor <;> simp [go_sem]) hb1
  obtain ⟨qw11_0_1, qw11_1_1, qw11_2_1, qw11_3_1⟩ := Lies.up (x := z) (k := w.heap.size + 1 + 1) (by constructor <;> simp [go_sem]) hb1
  have b1 : Hid (Below w.heap.size w w1) := by
    refine Below.trans ?_ (hb1.mono (by first | omega | (simp <;> omega)))
    repeat (first | exact Below.refl _ _ | refine Below.drew ?_ | refine Below.setCell ?_ (by first | omega | (simp <;> omega)) _ | refine Below.alloc ?_ (by first | omega | (simp <;> omega)) _)
  clear hb1
  go_wp2_with fail
  refine (add_fun x y hx hy _).mono ?_
  rintro e w2 ⟨rfl, hb2⟩
  have z2 := hb2.size
  try simp at z2
  obtain ⟨qw_0_2, qw_1_2, qw_2_2, qw_3_2⟩ := Lies.up (x := x) (k := w.heap.size) (by constructor <;> simp [go_sem, qw_0_1, qw_1_1, qw_2_1, qw_3_1]) hb2
  obtain ⟨qw1_0_2, qw1_1_2, qw1_2_2, qw1_3_2⟩ := Lies.up (x := y) (k := w.heap.size + 1) (by constructor <;> simp [go_sem, qw1_0_1, qw1_1_1, qw1_2_1, qw1_3_1]) hb2
  obtain ⟨qw11_0_2, qw11_1_2, qw11_2_2, qw11_3_2⟩ := Lies.up (x := z) (k := w.heap.size + 1 + 1) (by constructor <;> simp [go_sem, qw11_0_1, qw11_1_1, qw11_2_1, qw11_3_1]) hb2
  have b2 : Hid (Below w.heap.size w w2) := by
    refine Below.trans ?_ (hb2.mono (by first | omega | (simp <;> omega)))
    repeat (first | exact b1.out | refine Below.drew ?_ | refine Below.setCell ?_ (by first | omega | (simp <;> omega)) _ | refine Below.alloc ?_ (by first | omega | (simp <;> omega)) _)
  clear hb2 b1 qw_0_1 qw_1_1 qw_2_1 qw_3_1 qw1_0_1 qw1_1_1 qw1_2_1 qw1_3_1 qw11_0_1 qw11_1_1 qw11_2_1 qw11_3_1
  go_wp2_with fail
  refine (add_fun y x hy hx _).mono ?_
  rintro e w3 ⟨rfl, hb3⟩
  have z3 := hb3.size
  try simp at z3
  obtain ⟨qw_0_3, qw_1_3, qw_2_3, qw_3_3⟩ := Lies.up (x := x) (k := w.heap.size) (by constructor <;> simp [go_sem, qw_0_2, qw_1_2, qw_2_2, qw_3_2]) hb3
  obtain ⟨qw1_0_3, qw1_1_3, qw1_2_3, qw1_3_3⟩ := Lies.up (x := y) (k := w.heap.size + 1) (by constructor <;> simp [go_sem, qw1_0_2, qw1_1_2, qw1_2_2, qw1_3_2]) hb3
  obtain ⟨qw11_0_3, qw11_1_3, qw11_2_3, qw11_3_3⟩ := Lies.up (x := z) (k := w.heap.size + 1 + 1) (by constructor <;> simp [go_sem, qw11_0_2, qw11_1_2, qw11_2_2, qw11_3_2]) hb3
  obtain ⟨qw2_0_3, qw2_1_3, qw2_2_3, qw2_3_3⟩ := Lies.up (x := addS x y) (k := w2.heap.size) (by constructor <;> simp [go_sem]) hb3
  have b3 : Hid (Below w.heap.size w w3) := by
    refine Below.trans ?_ (hb3.mono (by first | omega | (simp <;> omega)))
    repeat (first | exact b2.out | refine Below.drew ?_ | refine Below.setCell ?_ (by first | omega | (simp <;> omega)) _ | refine Below.alloc ?_ (by first | omega | (simp <;> omega)) _)
  clear hb3 b2 qw_0_2 qw_1_2 qw_2_2 qw_3_2 qw1_0_2 qw1_1_2 qw1_2_2 qw1_3_2 qw11_0_2 qw11_1_2 qw11_2_2 qw11_3_2
  rw [addS_comm y x, addC_comm y x]
  go_wp2_with fail
  refine (add_fun (addS x y) z (addS_ok _ _) hz _).mono ?_
  rintro e w4 ⟨rfl, hb4⟩
  have z4 := hb4.size
  try simp at z4
  obtain ⟨qw_0_4, qw_1_4, qw_2_4, qw_3_4⟩ := Lies.up (x := x) (k := w.heap.size) (by constructor <;> simp [go_sem, qw_0_3, qw_1_3, qw_2_3, qw_3_3]) hb4
  obtain ⟨qw1_0_4, qw1_1_4, qw1_2_4, qw1_3_4⟩ := Lies.up (x := y) (k := w.heap.size + 1) (by constructor <;> simp [go_sem, qw1_0_3, qw1_1_3, qw1_2_3, qw1_3_3]) hb4
  obtain ⟨qw11_0_4, qw11_1_4, qw11_2_4, qw11_3_4⟩ := Lies.up (x := z) (k := w.heap.size + 1 + 1) (by constructor <;> simp [go_sem, qw11_0_3, qw11_1_3, qw11_2_3, qw11_3_3]) hb4
  obtain ⟨qw2_0_4, qw2_1_4, qw2_2_4, qw2_3_4⟩ := Lies.up (x := addS x y) (k := w2.heap.size) (by constructor <;> simp [go_sem, qw2_0_3, qw2_1_3, qw2_2_3, qw2_3_3]) hb4
  obtain ⟨qw3_0_4, qw3_1_4, qw3_2_4, qw3_3_4⟩ := Lies.up (x := addS x y) (k := w3.heap.size) (by constructor <;> simp [go_sem]) hb4
  have b4 : Hid (Below w.heap.size w w4) := by
    refine Below.trans ?_ (hb4.mono (by first | omega | (simp <;> omega)))
    repeat (first | exact b3.out | refine Below.drew ?_ | refine Below.setCell ?_ (by first | omega | (simp <;> omega)) _ | refine Below.alloc ?_ (by first | omega | (simp <;> omega)) _)
  clear hb4 b3 qw_0_3 qw_1_3 qw_2_3 qw_3_3 qw1_0_3 qw1_1_3 qw1_2_3 qw1_3_3 qw11_0_3 qw11_1_3 qw11_2_3 qw11_3_3 qw2_0_3 qw2_1_3 qw2_2_3 qw2_3_3
  go_wp2_with fail
  refine (add_fun y z hy hz _).mono ?_
  rintro e w5 ⟨rfl, hb5⟩
  have z5 := hb5.size
  try simp at z5
  obtain ⟨qw_0_5, qw_1_5, qw_2_5, qw_3_5⟩ := Lies.up (x := x) (k := w.heap.size) (by constructor <;> simp [go_sem, qw_0_4, qw_1_4, qw_2_4, qw_3_4]) hb5
  obtain ⟨qw2_0_5, qw2_1_5, qw2_2_5, qw2_3_5⟩ := Lies.up (x := addS x y) (k := w2.heap.size) (by constructor <;> simp [go_sem, qw2_0_4, qw2_1_4, qw2_2_4, qw2_3_4]) hb5
  obtain ⟨qw3_0_5, qw3_1_5, qw3_2_5, qw3_3_5⟩ := Lies.up (x := addS x y) (k := w3.heap.size) (by constructor <;> simp [go_sem, qw3_0_4, qw3_1_4, qw3_2_4, qw3_3_4]) hb5
  obtain ⟨qw4_0_5, qw4_1_5, qw4_2_5, qw4_3_5⟩ := Lies.up (x := addS (addS x y) z) (k := w4.heap.size) (by constructor <;> simp [go_sem]) hb5
  have b5 : Hid (Below w.heap.size w w5) := by
    refine Below.trans ?_ (hb5.mono (by first | omega | (simp <;> omega)))
    repeat (first | exact b4.out | refine Below.drew ?_ | refine Below.setCell ?_ (by first | omega | (simp <;> omega)) _ | refine Below.alloc ?_ (by first | omega | (simp <;> omega)) _)
  clear hb5 b4 qw_0_4 qw_1_4 qw_2_4 qw_3_4 qw1_0_4 qw1_1_4 qw1_2_4 qw1_3_4 qw11_0_4 qw11_1_4 qw11_2_4 qw11_3_4 qw2_0_4 qw2_1_4 qw2_2_4 qw2_3_4 qw3_0_4 qw3_1_4 qw3_2_4 qw3_3_4
  go_wp2_with fail
  refine (add_fun x (addS y z) hx (addS_ok _ _) _).mono ?_
  rintro e w6 ⟨rfl, hb6⟩
  have z6 := hb6.size
  try simp at z6
  obtain ⟨qw2_0_6, qw2_1_6, qw2_2_6, qw2_3_6⟩ := Lies.up (x := addS x y) (k := w2.heap.size) (by constructor <;> simp [go_sem, qw2_0_5, qw2_1_5, qw2_2_5, qw2_3_5]) hb6
  obtain ⟨qw3_0_6, qw3_1_6, qw3_2_6, qw3_3_6⟩ := Lies.up (x := addS x y) (k := w3.heap.size) (by constructor <;> simp [go_sem, qw3_0_5, qw3_1_5, qw3_2_5, qw3_3_5]) hb6
  obtain ⟨qw4_0_6, qw4_1_6, qw4_2_6, qw4_3_6⟩ := Lies.up (x := addS (addS x y) z) (k := w4.heap.size) (by constructor <;> simp [go_sem, qw4_0_5, qw4_1_5, qw4_2_5, qw4_3_5]) hb6
  have b6 : Hid (Below w.heap.size w w6) := by
    refine Below.trans ?_ (hb6.mono (by first | omega | (simp <;> omega)))
    repeat (first | exact b5.out | refine Below.drew ?_ | refine Below.setCell ?_ (by first | omega | (simp <;> omega)) _ | refine Below.alloc ?_ (by first | omega | (simp <;> omega)) _)
  clear hb6 b5 qw_0_5 qw_1_5 qw_2_5 qw_3_5 qw2_0_5 qw2_1_5 qw2_2_5 qw2_3_5 qw3_0_5 qw3_1_5 qw3_2_5 qw3_3_5 qw4_0_5 qw4_1_5 qw4_2_5 qw4_3_5
  obtain ⟨hs, hc⟩ := sums (a := x) (b := y) (c := z)
  rw [← hs]
  have he := eqN (addS x y) (addS x y)
  have hr := Nm.beq_self (addS x y)
  have he' := eqN (addS (addS x y) z) (addS (addS x y) z)
  have hr' := Nm.beq_self (addS (addS x y) z)
  obtain ⟨p1, q1⟩ := addC_01 hx hy
  obtain ⟨p2, q2⟩ := addC_01 (addS_ok x y) hz
  obtain ⟨p3, q3⟩ := addC_01 hy hz
  obtain ⟨p4, q4⟩ := addC_01 hx (addS_ok y z)
  have e1 : IntKind.u64.wrap (addC x y + addC (addS x y) z) = addC x y + addC (addS x y) z := by rw [IntKind.wrap_u64]; omega
  have e2 : IntKind.u64.wrap (addC y z + addC x (addS y z)) = addC x y + addC (addS x y) z := by rw [IntKind.wrap_u64]; omega
  clear hc hs
  go_wp2_with fail
  go_ret
  refine ⟨rfl, ?_⟩
  repeat (first | exact b6.out | refine Below.drew ?_ | refine Below.setCell ?_ (by first | omega | (simp <;> omega)) _ | refine Below.alloc ?_ (by first | omega | (simp <;> omega)) _)

set_option maxRecDepth 100000 in
theorem limbSums_lifted (os : Os) (started : os.Started) (H : Type) (enc : TypeId × Value → H) :
    ReturnsInHanded {} Try.checked os 6 .any (Rows.limbSumsSpec.pre6 enc Try.prog Try.f6 Rows.limbSumsRow.domain false) (Rows.limbSumsSpec.post enc Try.prog Try.f6 false true false false) := by
  refine returnsInHanded_of_change (C := Try.checked) Try.own started (by kernel_rfl) Try.func6
    (ChangeSpec.witness6 (enc := enc) (C := Try.checked) false ⟨#[], #[.agg #[.int .u64 0, .int .u64 0, .int .u64 0, .int .u64 0], .agg #[.int .u64 0, .int .u64 0, .int .u64 0, .int .u64 0], .agg #[.int .u64 0, .int .u64 0, .int .u64 0, .int .u64 0]], []⟩ 8 (by kernel_rfl) (by kernel_rfl) (by kernel_rfl) (by kernel_rfl)) ?_
  intro W base args ds gs before hval0 hW hcnd _
  have hval : ∀ (j : Nat) t v, Try.f6.params[j]? = some t → args[j]? = some v → Value.okWide Try.prog W .any base t v := hval0
  have hW' := hW
  obtain ⟨p, q, hA0, hV, rfl, hfz, hnd⟩ := hW
  have hA : DataW.TrodAll enc Try.prog W 0 (fun _ => true) true Try.f6.params.toList args.toList ds p := hA0
  rw [Try.params6] at hA hval
  obtain ⟨v0, v1, v2, d0, d1, d2, p0, p1, p2, rfl, rfl, rfl, h0, h1, h2⟩ := trodAll_three hA
  obtain ⟨rfl, rfl⟩ := trodVars_none hV
  obtain ⟨xs0, l0, rfl, rfl, rfl, w0⟩ := open_arr Try.underlying24 Try.underlying22 Try.cellsU64 Try.cellsNum (hval 0 24 v0 rfl rfl) h0
  obtain ⟨xs1, l1, rfl, rfl, rfl, w1⟩ := open_arr Try.underlying24 Try.underlying22 Try.cellsU64 Try.cellsNum (hval 1 24 v1 rfl rfl) h1
  obtain ⟨xs2, l2, rfl, rfl, rfl, w2⟩ := open_arr Try.underlying24 Try.underlying22 Try.cellsU64 Try.cellsNum (hval 2 24 v2 rfl rfl) h2
  clear hA0 hval0 hval hA h0 h1 h2
  obtain ⟨a0, b0, c0, d0, rfl⟩ := list4 xs0 l0
  have ok0 : (⟨a0, b0, c0, d0⟩ : Nm).ok := ⟨word_of_wf (w0 _ (by simp)), word_of_wf (w0 _ (by simp)), word_of_wf (w0 _ (by simp)), word_of_wf (w0 _ (by simp))⟩
  obtain ⟨a1, b1, c1, d1, rfl⟩ := list4 xs1 l1
  have ok1 : (⟨a1, b1, c1, d1⟩ : Nm).ok := ⟨word_of_wf (w1 _ (by simp)), word_of_wf (w1 _ (by simp)), word_of_wf (w1 _ (by simp)), word_of_wf (w1 _ (by simp))⟩
  obtain ⟨a2, b2, c2, d2, rfl⟩ := list4 xs2 l2
  have ok2 : (⟨a2, b2, c2, d2⟩ : Nm).ok := ⟨word_of_wf (w2 _ (by simp)), word_of_wf (w2 _ (by simp)), word_of_wf (w2 _ (by simp)), word_of_wf (w2 _ (by simp))⟩
  simp only [List.append_nil] at hW'
  refine (sums_walk ⟨a0, b0, c0, d0⟩ ⟨a1, b1, c1, d1⟩ ⟨a2, b2, c2, d2⟩ ok0 ok1 ok2 W).mono fun e W' ⟨he, hg⟩ => ?_
  subst he
  exact ⟨_, rfl, _, _, _, [], [], [], hW', trodAll_mk1 (shut_bool Try.underlying4 _), trodAll_mk3 (shut_arr Try.underlying24 Try.underlying22 Try.cellsU64 Try.cellsNum l0 w0) (shut_arr Try.underlying24 Try.underlying22 Try.cellsU64 Try.cellsNum l1 w1) (shut_arr Try.underlying24 Try.underlying22 Try.cellsU64 Try.cellsNum l2 w2), rfl, hg.frame _, fun h => by cases h⟩

theorem limbSums_holds : Rows.LimbSumsSaid :=
  OpenClaim.holds_of_wide 6 Try.f6 rfl rfl rfl rfl rfl rfl rfl ⟨rfl, rfl, rfl, rfl, rfl⟩ rfl rfl rfl rfl rfl (by kernel_rfl) Try.func6 (by kernel_rfl)
    (of_decide_eq_true (by kernel_rfl)) (by unfold Func.isWrapper; first | (rw [if_pos (by decide +kernel)]; kernel_rfl) | (rw [if_neg (by decide +kernel)]; exact ⟨rfl, rfl⟩))
    (fun os started H enc _ => limbSums_lifted os started H enc)
#print axioms limbSums_holds
end Go.Proofs.Ytfnpjadfedmjiaa
