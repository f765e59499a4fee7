/- AgreeSmall returns true for all that it is given. No condition. -/
import Derived.Test.YtpnfopakkaoibaaQPArr
import Derived.Test.YtpnfopakkaoibaaQAgLaw
namespace Go.Proofs.Ytpnfopakkaoibaa
open Go.RowKit
open Go.ChangeShapes Go.WideShapes Go.ChangeAt
set_option linter.unusedSimpArgs false
theorem agreeSmall_law (a : List Int) (px py : Nm) (la : a.length = 32) (ha : ∀ z ∈ a, 0 ≤ z ∧ z < 256) (a1 : px.ok) (a2 : py.ok) (w : World) : Calls Try.prog 6 #[.agg (a.map (Value.int .u8)).toArray, Wv px py] w fun e w' => e = .returned (.bool true) ∧ Below w.heap.size w w' := by
  obtain ⟨m, hm, ea⟩ := bytes_num a la ha
  rw [ea]
  exact agreeSmall_of m hm px py a1 a2 w
set_option maxRecDepth 100000 in
theorem agreeSmall_lifted (os : Os) (started : os.Started) (H : Type) (enc : TypeId × Value → H) :
    ReturnsInHanded {} Try.checked os 6 .any (Rows.agreeSmallSpec.pre6 enc Try.prog Try.f6 Rows.agreeSmallRow.domain false) (Rows.agreeSmallSpec.post enc Try.prog Try.f6 false true false false) := by
  refine returnsInHanded_of_change (C := Try.checked) Try.ownN started (by kernel_rfl) Try.func6
    (ChangeSpec.witness6 (enc := enc) (C := Try.checked) false ⟨#[], #[.agg #[.int .u8 0, .int .u8 0, .int .u8 0, .int .u8 0, .int .u8 0, .int .u8 0, .int .u8 0, .int .u8 0, .int .u8 0, .int .u8 0, .int .u8 0, .int .u8 0, .int .u8 0, .int .u8 0, .int .u8 0, .int .u8 0, .int .u8 0, .int .u8 0, .int .u8 0, .int .u8 0, .int .u8 0, .int .u8 0, .int .u8 0, .int .u8 0, .int .u8 0, .int .u8 0, .int .u8 0, .int .u8 0, .int .u8 0, .int .u8 0, .int .u8 0, .int .u8 0], .agg #[.int .u64 0, .int .u64 0, .int .u64 0, .int .u64 0, .int .u64 0, .int .u64 0, .int .u64 0, .int .u64 0]], []⟩ 8 (by kernel_rfl) (by kernel_rfl) (by kernel_rfl) (by kernel_rfl)) ?_
  intro W base args ds gs before hval0 hW hcnd _
  have hval : ∀ (j : Nat) t v, Try.f6.params[j]? = some t → args[j]? = some v → Value.okWide Try.prog W .any base t v := hval0
  have hW' := hW
  obtain ⟨p, q, hA0, hV, rfl, hfz, hnd⟩ := hW
  have hA : DataW.TrodAll enc Try.prog W 0 (fun _ => true) true Try.f6.params.toList args.toList ds p := hA0
  rw [Try.params6] at hA hval
  obtain ⟨v0, v1, d0, d1, p0, p1, rfl, rfl, rfl, h0, h1⟩ := trodAll_two hA
  obtain ⟨rfl, rfl⟩ := trodVars_none hV
  obtain ⟨xs0, l0, rfl, rfl, rfl, w0⟩ := open_arr Try.underlying22 Try.underlying5 Try.cellsU8N Try.cellsB32 (hval 0 22 v0 rfl rfl) h0
  obtain ⟨xs1, ys1, l1, m1, rfl, rfl, rfl, w1, u1⟩ := open_point (hval 1 35 v1 rfl rfl) h1
  clear hA0 hval0 hval hA h0 h1
  obtain ⟨a1, b1, c1, d1, rfl⟩ := list4 xs1 l1
  obtain ⟨e1, f1, g1, i1, rfl⟩ := list4 ys1 m1
  have ok1 : (⟨a1, b1, c1, d1⟩ : Nm).ok := ⟨word_of_wf (w1 _ (by simp)), word_of_wf (w1 _ (by simp)), word_of_wf (w1 _ (by simp)), word_of_wf (w1 _ (by simp))⟩
  have okk1 : (⟨e1, f1, g1, i1⟩ : Nm).ok := ⟨word_of_wf (u1 _ (by simp)), word_of_wf (u1 _ (by simp)), word_of_wf (u1 _ (by simp)), word_of_wf (u1 _ (by simp))⟩
  simp only [List.append_nil] at hW'
  refine (agreeSmall_law xs0 ⟨a1, b1, c1, d1⟩ ⟨e1, f1, g1, i1⟩ l0 (fun z hz => byte_of_wf (w0 z hz)) ok1 okk1 W).mono fun e W' ⟨he, hg⟩ => ?_
  subst he
  exact ⟨_, rfl, _, _, _, [], [], [], hW', trodAll_mk1 (shut_bool Try.underlying4 _), trodAll_mk2 (shut_arr Try.underlying22 Try.underlying5 Try.cellsU8N Try.cellsB32 l0 w0) (shut_point l1 m1 w1 u1), rfl, hg.frame _, fun h => by cases h⟩

theorem agreeSmall_holds : Rows.AgreeSmallSaid :=
  OpenClaim.holds_of_wide 6 Try.f6 rfl rfl rfl rfl rfl rfl rfl ⟨rfl, rfl, rfl, rfl, rfl⟩ rfl rfl rfl rfl rfl (by kernel_rfl) Try.func6 (by kernel_rfl)
    (of_decide_eq_true (by kernel_rfl)) (by unfold Func.isWrapper; first | (rw [if_pos (by decide +kernel)]; kernel_rfl) | (rw [if_neg (by decide +kernel)]; exact ⟨rfl, rfl⟩))
    (fun os started H enc _ => agreeSmall_lifted os started H enc)
#print axioms agreeSmall_holds
end Go.Proofs.Ytpnfopakkaoibaa
