/- LadderNeg returns true for all that it is given. No condition. -/
import Derived.Test.YtjdamgfichlgpaaGrp0
import Derived.Test.YtjdamgfichlgpaaCurveIs
import Derived.Test.YtjdamgfichlgpaaGrp44
import Derived.Test.YtjdamgfichlgpaaLadderIs
import Derived.Test.YtjdamgfichlgpaaGrp54
namespace Go.Proofs.Ytjdamgfichlgpaa
open Go.RowKit
open Go.ChangeShapes Go.WideShapes Go.ChangeAt
set_option linter.unusedSimpArgs false
theorem ladderNeg_law (px py : Nm) (a1 : px.ok) (a2 : py.ok) (w : World) : Calls Try.prog 7 #[Wv px py] w fun e w' => e = .returned (.bool true) ∧ Below w.heap.size w w' := ladNeg_of fSubC lOfC cZeroC cBaseC cAddC cNegC cNegN px py a1 a2 w
set_option maxRecDepth 100000 in
theorem ladderNeg_lifted (os : Os) (started : os.Started) (H : Type) (enc : TypeId × Value → H) :
    ReturnsInHanded {} Try.checked os 7 .any (Rows.ladderNegSpec.pre6 enc Try.prog Try.f7 Rows.ladderNegRow.domain false) (Rows.ladderNegSpec.post enc Try.prog Try.f7 false true false false) := by
  refine returnsInHanded_of_change (C := Try.checked) Try.own started (by kernel_rfl) Try.func7
    (ChangeSpec.witness6 (enc := enc) (C := Try.checked) false ⟨#[], #[.agg #[.int .u64 0, .int .u64 0, .int .u64 0, .int .u64 0, .int .u64 0, .int .u64 0, .int .u64 0, .int .u64 0]], []⟩ 8 (by kernel_rfl) (by kernel_rfl) (by kernel_rfl) (by kernel_rfl)) ?_
  intro W base args ds gs before hval0 hW hcnd _
  have hval : ∀ (j : Nat) t v, Try.f7.params[j]? = some t → args[j]? = some v → Value.okWide Try.prog W .any base t v := hval0
  have hW' := hW
  obtain ⟨p, q, hA0, hV, rfl, hfz, hnd⟩ := hW
  have hA : DataW.TrodAll enc Try.prog W 0 (fun _ => true) true Try.f7.params.toList args.toList ds p := hA0
  rw [Try.params7] at hA hval
  obtain ⟨v0, d0, rfl, rfl, h0⟩ := trodAll_one hA
  obtain ⟨rfl, rfl⟩ := trodVars_none hV
  obtain ⟨xs0, ys0, l0, m0, rfl, rfl, rfl, w0, u0⟩ := open_point (hval 0 26 v0 rfl rfl) h0
  clear hA0 hval0 hval hA h0
  obtain ⟨a0, b0, c0, d0, rfl⟩ := list4 xs0 l0
  obtain ⟨e0, f0, g0, i0, rfl⟩ := list4 ys0 m0
  have ok0 : (⟨a0, b0, c0, d0⟩ : Nm).ok := ⟨word_of_wf (w0 _ (by simp)), word_of_wf (w0 _ (by simp)), word_of_wf (w0 _ (by simp)), word_of_wf (w0 _ (by simp))⟩
  have okk0 : (⟨e0, f0, g0, i0⟩ : Nm).ok := ⟨word_of_wf (u0 _ (by simp)), word_of_wf (u0 _ (by simp)), word_of_wf (u0 _ (by simp)), word_of_wf (u0 _ (by simp))⟩
  simp only [List.append_nil] at hW'
  refine (ladderNeg_law ⟨a0, b0, c0, d0⟩ ⟨e0, f0, g0, i0⟩ ok0 okk0 W).mono fun e W' ⟨he, hg⟩ => ?_
  subst he
  exact ⟨_, rfl, _, _, _, [], [], [], hW', trodAll_mk1 (shut_bool Try.underlying4 _), trodAll_mk1 (shut_point l0 m0 w0 u0), rfl, hg.frame _, fun h => by cases h⟩

theorem ladderNeg_holds : Rows.LadderNegSaid :=
  OpenClaim.holds_of_wide 7 Try.f7 rfl rfl rfl rfl rfl rfl rfl ⟨rfl, rfl, rfl, rfl, rfl⟩ rfl rfl rfl rfl rfl (by kernel_rfl) Try.func7 (by kernel_rfl)
    (of_decide_eq_true (by kernel_rfl)) (by unfold Func.isWrapper; first | (rw [if_pos (by decide +kernel)]; kernel_rfl) | (rw [if_neg (by decide +kernel)]; exact ⟨rfl, rfl⟩))
    (fun os started H enc _ => ladderNeg_lifted os started H enc)
#print axioms ladderNeg_holds
end Go.Proofs.Ytjdamgfichlgpaa
