/- AgreeTells returns true for all that it is given. No condition. -/
import Derived.Test.YtpnfopakkaoibaaQOwn
import Derived.Test.YtpnfopakkaoibaaQArr
import Derived.Test.YtpnfopakkaoibaaQAgRefSToAgTel
namespace Go.Proofs.Ytpnfopakkaoibaa
open Go.RowKit
open Go.ChangeShapes Go.WideShapes Go.ChangeAt
set_option linter.unusedSimpArgs false
theorem agreeTells_law (a b : List Int) (la : a.length = 32) (ha : ∀ z ∈ a, 0 ≤ z ∧ z < 256) (lb : b.length = 32) (hb : ∀ z ∈ b, 0 ≤ z ∧ z < 256) (w : World) : Calls Try.prog 3 #[.agg (a.map (Value.int .u8)).toArray, .agg (b.map (Value.int .u8)).toArray] w fun e w' => e = .returned (.bool true) ∧ Below w.heap.size w w' := by
  obtain ⟨m, hm, ea⟩ := bytes_num a la ha
  obtain ⟨n, hn, eb⟩ := bytes_num b lb hb
  rw [ea, eb]
  exact agreeTells_of m n hm hn w
set_option maxRecDepth 100000 in
theorem agreeTells_lifted (os : Os) (started : os.Started) (H : Type) (enc : TypeId × Value → H) :
    ReturnsInHanded {} Try.checked os 3 .any (Rows.agreeTellsSpec.pre6 enc Try.prog Try.f3 Rows.agreeTellsRow.domain false) (Rows.agreeTellsSpec.post enc Try.prog Try.f3 false true false false) := by
  refine returnsInHanded_of_change (C := Try.checked) Try.ownN started (by kernel_rfl) Try.func3
    (ChangeSpec.witness6 (enc := enc) (C := Try.checked) false ⟨#[], #[.agg #[.int .u8 0, .int .u8 0, .int .u8 0, .int .u8 0, .int .u8 0, .int .u8 0, .int .u8 0, .int .u8 0, .int .u8 0, .int .u8 0, .int .u8 0, .int .u8 0, .int .u8 0, .int .u8 0, .int .u8 0, .int .u8 0, .int .u8 0, .int .u8 0, .int .u8 0, .int .u8 0, .int .u8 0, .int .u8 0, .int .u8 0, .int .u8 0, .int .u8 0, .int .u8 0, .int .u8 0, .int .u8 0, .int .u8 0, .int .u8 0, .int .u8 0, .int .u8 0], .agg #[.int .u8 0, .int .u8 0, .int .u8 0, .int .u8 0, .int .u8 0, .int .u8 0, .int .u8 0, .int .u8 0, .int .u8 0, .int .u8 0, .int .u8 0, .int .u8 0, .int .u8 0, .int .u8 0, .int .u8 0, .int .u8 0, .int .u8 0, .int .u8 0, .int .u8 0, .int .u8 0, .int .u8 0, .int .u8 0, .int .u8 0, .int .u8 0, .int .u8 0, .int .u8 0, .int .u8 0, .int .u8 0, .int .u8 0, .int .u8 0, .int .u8 0, .int .u8 0]], []⟩ 8 (by kernel_rfl) (by kernel_rfl) (by kernel_rfl) (by kernel_rfl)) ?_
  intro W base args ds gs before hval0 hW hcnd _
  have hval : ∀ (j : Nat) t v, Try.f3.params[j]? = some t → args[j]? = some v → Value.okWide Try.prog W .any base t v := hval0
  have hW' := hW
  obtain ⟨p, q, hA0, hV, rfl, hfz, hnd⟩ := hW
  have hA : DataW.TrodAll enc Try.prog W 0 (fun _ => true) true Try.f3.params.toList args.toList ds p := hA0
  rw [Try.params3] at hA hval
  obtain ⟨v0, v1, d0, d1, p0, p1, rfl, rfl, rfl, h0, h1⟩ := trodAll_two hA
  obtain ⟨rfl, rfl⟩ := trodVars_none hV
  obtain ⟨xs0, l0, rfl, rfl, rfl, w0⟩ := open_arr Try.underlying22 Try.underlying5 Try.cellsU8N Try.cellsB32 (hval 0 22 v0 rfl rfl) h0
  obtain ⟨xs1, l1, rfl, rfl, rfl, w1⟩ := open_arr Try.underlying22 Try.underlying5 Try.cellsU8N Try.cellsB32 (hval 1 22 v1 rfl rfl) h1
  clear hA0 hval0 hval hA h0 h1
  simp only [List.append_nil] at hW'
  refine (agreeTells_law xs0 xs1 l0 (fun z hz => byte_of_wf (w0 z hz)) l1 (fun z hz => byte_of_wf (w1 z hz)) W).mono fun e W' ⟨he, hg⟩ => ?_
  subst he
  exact ⟨_, rfl, _, _, _, [], [], [], hW', trodAll_mk1 (shut_bool Try.underlying4 _), trodAll_mk2 (shut_arr Try.underlying22 Try.underlying5 Try.cellsU8N Try.cellsB32 l0 w0) (shut_arr Try.underlying22 Try.underlying5 Try.cellsU8N Try.cellsB32 l1 w1), rfl, hg.frame _, fun h => by cases h⟩

theorem agreeTells_holds : Rows.AgreeTellsSaid :=
  OpenClaim.holds_of_wide 3 Try.f3 rfl rfl rfl rfl rfl rfl rfl ⟨rfl, rfl, rfl, rfl, rfl⟩ rfl rfl rfl rfl rfl (by kernel_rfl) Try.func3 (by kernel_rfl)
    (of_decide_eq_true (by kernel_rfl)) (by unfold Func.isWrapper; first | (rw [if_pos (by decide +kernel)]; kernel_rfl) | (rw [if_neg (by decide +kernel)]; exact ⟨rfl, rfl⟩))
    (fun os started H enc _ => agreeTells_lifted os started H enc)
#print axioms agreeTells_holds
end Go.Proofs.Ytpnfopakkaoibaa
