/- GfMix returns true for every two columns. -/
import Derived.Test.YtohgnkpaaocjmaaGOwn
import Derived.Test.YtohgnkpaaocjmaaGfIs
import Derived.Test.YtohgnkpaaocjmaaGfMixL
namespace Go.Proofs.Ytohgnkpaaocjmaa
open Go.RowKit
open Go.ChangeShapes Go.WideShapes Go.ChangeAt
set_option linter.unusedSimpArgs false
theorem gfMix_law (xs ys : List Int) (lx : xs.length = 4) (hx : ∀ z ∈ xs, 0 ≤ z ∧ z < 256) (ly : ys.length = 4) (hy : ∀ z ∈ ys, 0 ≤ z ∧ z < 256) (w : World) : Calls Try.prog 8 #[.agg (xs.map (Value.int .u8)).toArray, .agg (ys.map (Value.int .u8)).toArray] w fun e w' => e = .returned (.bool true) ∧ Below w.heap.size w w' := by
  obtain ⟨c, e1, l1, b1⟩ := nats_of xs hx
  obtain ⟨d, e2, l2, b2⟩ := nats_of ys hy
  rw [e1, e2]
  exact gfMix_of gfIs c d ⟨l1.trans lx, b1⟩ ⟨l2.trans ly, b2⟩ w trivial
set_option maxRecDepth 100000 in
theorem gfMix_lifted (os : Os) (started : os.Started) (H : Type) (enc : TypeId × Value → H) :
    ReturnsInHanded {} Try.checked os 8 .any (Rows.gfMixSpec.pre6 enc Try.prog Try.f8 Rows.gfMixRow.domain false) (Rows.gfMixSpec.post enc Try.prog Try.f8 false true false false) := by
  refine returnsInHanded_of_change (C := Try.checked) Try.own started (by kernel_rfl) Try.func8
    (ChangeSpec.witness6 (enc := enc) (C := Try.checked) false ⟨#[], #[.agg #[.int .u8 0, .int .u8 0, .int .u8 0, .int .u8 0], .agg #[.int .u8 0, .int .u8 0, .int .u8 0, .int .u8 0]], []⟩ 8 (by kernel_rfl) (by kernel_rfl) (by kernel_rfl) (by kernel_rfl)) ?_
  intro W base args ds gs before hval0 hW hcnd _
  have hval : ∀ (j : Nat) t v, Try.f8.params[j]? = some t → args[j]? = some v → Value.okWide Try.prog W .any base t v := hval0
  have hW' := hW
  obtain ⟨p, q, hA0, hV, rfl, hfz, hnd⟩ := hW
  have hA : DataW.TrodAll enc Try.prog W 0 (fun _ => true) true Try.f8.params.toList args.toList ds p := hA0
  rw [Try.params8] at hA hval
  obtain ⟨v0, v1, d0, d1, p0, p1, rfl, rfl, rfl, h0, h1⟩ := trodAll_two hA
  obtain ⟨rfl, rfl⟩ := trodVars_none hV
  obtain ⟨xs0, l0, rfl, rfl, rfl, w0⟩ := open_arr Try.underlying23 Try.underlying5 gcells_u8 gcells_a4 (hval 0 23 v0 rfl rfl) h0
  obtain ⟨xs1, l1, rfl, rfl, rfl, w1⟩ := open_arr Try.underlying23 Try.underlying5 gcells_u8 gcells_a4 (hval 1 23 v1 rfl rfl) h1
  clear hA0 hval0 hval hA h0 h1
  simp only [List.append_nil] at hW'
  refine (gfMix_law xs0 xs1 l0 (fun z hz => byte_of_wf (w0 z hz)) l1 (fun z hz => byte_of_wf (w1 z hz)) W).mono fun e W' ⟨he, hg⟩ => ?_
  subst he
  exact ⟨_, rfl, _, _, _, [], [], [], hW', trodAll_mk1 (shut_bool Try.underlying4 _), trodAll_mk2 (shut_arr Try.underlying23 Try.underlying5 gcells_u8 gcells_a4 l0 w0) (shut_arr Try.underlying23 Try.underlying5 gcells_u8 gcells_a4 l1 w1), rfl, hg.frame _, fun h => by cases h⟩

theorem gfMix_holds : Rows.GfMixSaid :=
  OpenClaim.holds_of_wide 8 Try.f8 rfl rfl rfl rfl rfl rfl rfl ⟨rfl, rfl, rfl, rfl, rfl⟩ rfl rfl rfl rfl rfl (by kernel_rfl) Try.func8 (by kernel_rfl)
    (of_decide_eq_true (by kernel_rfl)) (by unfold Func.isWrapper; first | (rw [if_pos (by decide +kernel)]; kernel_rfl) | (rw [if_neg (by decide +kernel)]; exact ⟨rfl, rfl⟩))
    (fun os started H enc _ => gfMix_lifted os started H enc)
#print axioms gfMix_holds
end Go.Proofs.Ytohgnkpaaocjmaa
