/- LadderCurve returns true for all that it is given. No condition. -/
import Derived.Test.YtjdamgfichlgpaaGrp0
import Derived.Test.YtjdamgfichlgpaaCurveIs
import Derived.Test.YtjdamgfichlgpaaLadderIs
import Derived.Test.YtjdamgfichlgpaaLadLaw
namespace Go.Proofs.Ytjdamgfichlgpaa
open Go.RowKit
open Go.ChangeShapes Go.WideShapes Go.ChangeAt
set_option linter.unusedSimpArgs false
theorem ladderCurve_law (k px py : Nm) (ok : k.ok) (a1 : px.ok) (a2 : py.ok) (w : World) : Calls Try.prog 4 #[N k, Wv px py] w fun e w' => e = .returned (.bool true) ∧ Below w.heap.size w w' := ladCurve_of lLadC lOfC cOnC cTimesC k px py ok a1 a2 w
set_option maxRecDepth 100000 in
theorem ladderCurve_lifted (os : Os) (started : os.Started) (H : Type) (enc : TypeId × Value → H) :
    ReturnsInHanded {} Try.checked os 4 .any (Rows.ladderCurveSpec.pre6 enc Try.prog Try.f4 Rows.ladderCurveRow.domain false) (Rows.ladderCurveSpec.post enc Try.prog Try.f4 false true false false) := by
  refine returnsInHanded_of_change (C := Try.checked) Try.own started (by kernel_rfl) Try.func4
    (ChangeSpec.witness6 (enc := enc) (C := Try.checked) false ⟨#[], #[.agg #[.int .u64 0, .int .u64 0, .int .u64 0, .int .u64 0], .agg #[.int .u64 0, .int .u64 0, .int .u64 0, .int .u64 0, .int .u64 0, .int .u64 0, .int .u64 0, .int .u64 0]], []⟩ 8 (by kernel_rfl) (by kernel_rfl) (by kernel_rfl) (by kernel_rfl)) ?_
  intro W base args ds gs before hval0 hW hcnd _
  have hval : ∀ (j : Nat) t v, Try.f4.params[j]? = some t → args[j]? = some v → Value.okWide Try.prog W .any base t v := hval0
  have hW' := hW
  obtain ⟨p, q, hA0, hV, rfl, hfz, hnd⟩ := hW
  have hA : DataW.TrodAll enc Try.prog W 0 (fun _ => true) true Try.f4.params.toList args.toList ds p := hA0
  rw [Try.params4] at hA hval
  obtain ⟨v0, v1, d0, d1, p0, p1, rfl, rfl, rfl, h0, h1⟩ := trodAll_two hA
  obtain ⟨rfl, rfl⟩ := trodVars_none hV
  obtain ⟨xs0, l0, rfl, rfl, rfl, w0⟩ := open_arr Try.underlying24 Try.underlying22 Try.cellsU64 Try.cellsNum (hval 0 24 v0 rfl rfl) h0
  obtain ⟨xs1, ys1, l1, m1, rfl, rfl, rfl, w1, u1⟩ := open_point (hval 1 26 v1 rfl rfl) h1
  clear hA0 hval0 hval hA h0 h1
  obtain ⟨a0, b0, c0, d0, rfl⟩ := list4 xs0 l0
  have ok0 : (⟨a0, b0, c0, d0⟩ : Nm).ok := ⟨word_of_wf (w0 _ (by simp)), word_of_wf (w0 _ (by simp)), word_of_wf (w0 _ (by simp)), word_of_wf (w0 _ (by simp))⟩
  obtain ⟨a1, b1, c1, d1, rfl⟩ := list4 xs1 l1
  obtain ⟨e1, f1, g1, i1, rfl⟩ := list4 ys1 m1
  have ok1 : (⟨a1, b1, c1, d1⟩ : Nm).ok := ⟨word_of_wf (w1 _ (by simp)), word_of_wf (w1 _ (by simp)), word_of_wf (w1 _ (by simp)), word_of_wf (w1 _ (by simp))⟩
  have okk1 : (⟨e1, f1, g1, i1⟩ : Nm).ok := ⟨word_of_wf (u1 _ (by simp)), word_of_wf (u1 _ (by simp)), word_of_wf (u1 _ (by simp)), word_of_wf (u1 _ (by simp))⟩
  simp only [List.append_nil] at hW'
  refine (ladderCurve_law ⟨a0, b0, c0, d0⟩ ⟨a1, b1, c1, d1⟩ ⟨e1, f1, g1, i1⟩ ok0 ok1 okk1 W).mono fun e W' ⟨he, hg⟩ => ?_
  subst he
  exact ⟨_, rfl, _, _, _, [], [], [], hW', trodAll_mk1 (shut_bool Try.underlying4 _), trodAll_mk2 (shut_arr Try.underlying24 Try.underlying22 Try.cellsU64 Try.cellsNum l0 w0) (shut_point l1 m1 w1 u1), rfl, hg.frame _, fun h => by cases h⟩

theorem ladderCurve_holds : Rows.LadderCurveSaid :=
  OpenClaim.holds_of_wide 4 Try.f4 rfl rfl rfl rfl rfl rfl rfl ⟨rfl, rfl, rfl, rfl, rfl⟩ rfl rfl rfl rfl rfl (by kernel_rfl) Try.func4 (by kernel_rfl)
    (of_decide_eq_true (by kernel_rfl)) (by unfold Func.isWrapper; first | (rw [if_pos (by decide +kernel)]; kernel_rfl) | (rw [if_neg (by decide +kernel)]; exact ⟨rfl, rfl⟩))
    (fun os started H enc _ => ladderCurve_lifted os started H enc)
#print axioms ladderCurve_holds
end Go.Proofs.Ytjdamgfichlgpaa
