/- GfTells returns true for every two bytes, every number and every column. -/
import Derived.Test.YtohgnkpaaocjmaaGOwn
import Derived.Test.YtohgnkpaaocjmaaGfIs
import Derived.Test.YtohgnkpaaocjmaaGfTells
namespace Go.Proofs.Ytohgnkpaaocjmaa
open Go.RowKit
open Go.ChangeShapes Go.WideShapes Go.ChangeAt
set_option linter.unusedSimpArgs false
theorem gfTells_law (x y z : Int) (xs : List Int) (hx : 0 ≤ x ∧ x < 256) (hy : 0 ≤ y ∧ y < 256) (hz : 0 ≤ z ∧ z < 18446744073709551616) (lx : xs.length = 4) (hl : ∀ z ∈ xs, 0 ≤ z ∧ z < 256) (w : World) : Calls Try.prog 3 #[.int .u8 x, .int .u8 y, .int .u64 z, .agg (xs.map (Value.int .u8)).toArray] w fun e w' => e = .returned (.bool true) ∧ Below w.heap.size w w' := by
  obtain ⟨a, rfl⟩ := nat_of hx.1
  obtain ⟨b, rfl⟩ := nat_of hy.1
  obtain ⟨n, rfl⟩ := nat_of hz.1
  obtain ⟨c, e1, l1, b1⟩ := nats_of xs hl
  obtain ⟨c0, c1, c2, c3, rfl, h0, h1, h2, h3⟩ := G.four.ex ⟨l1.trans lx, b1⟩
  rw [e1]
  exact gfTells_of gfIs a (by omega) b (by omega) n (by omega) c0 c1 c2 c3 h0 h1 h2 h3 w trivial
set_option maxRecDepth 100000 in
theorem gfTells_lifted (os : Os) (started : os.Started) (H : Type) (enc : TypeId × Value → H) :
    ReturnsInHanded {} Try.checked os 3 .any (Rows.gfTellsSpec.pre6 enc Try.prog Try.f3 Rows.gfTellsRow.domain false) (Rows.gfTellsSpec.post enc Try.prog Try.f3 false true false false) := by
  refine returnsInHanded_of_change (C := Try.checked) Try.own started (by kernel_rfl) Try.func3
    (ChangeSpec.witness6 (enc := enc) (C := Try.checked) false ⟨#[], #[.int .u8 0, .int .u8 0, .int .u64 0, .agg #[.int .u8 0, .int .u8 0, .int .u8 0, .int .u8 0]], []⟩ 8 (by kernel_rfl) (by kernel_rfl) (by kernel_rfl) (by kernel_rfl)) ?_
  intro W base args ds gs before hval0 hW hcnd _
  have hval : ∀ (j : Nat) t v, Try.f3.params[j]? = some t → args[j]? = some v → Value.okWide Try.prog W .any base t v := hval0
  have hW' := hW
  obtain ⟨p, q, hA0, hV, rfl, hfz, hnd⟩ := hW
  have hA : DataW.TrodAll enc Try.prog W 0 (fun _ => true) true Try.f3.params.toList args.toList ds p := hA0
  rw [Try.params3] at hA hval
  obtain ⟨v0, v1, v2, v3, d0, d1, d2, d3, p0, p1, p2, p3, rfl, rfl, rfl, h0, h1, h2, h3⟩ := trodAll_four hA
  obtain ⟨rfl, rfl⟩ := trodVars_none hV
  obtain ⟨x0, rfl, rfl, rfl, w0⟩ := open_int Try.underlying5 (hval 0 5 v0 rfl rfl) h0
  obtain ⟨x1, rfl, rfl, rfl, w1⟩ := open_int Try.underlying5 (hval 1 5 v1 rfl rfl) h1
  obtain ⟨x2, rfl, rfl, rfl, w2⟩ := open_int Try.underlying22 (hval 2 22 v2 rfl rfl) h2
  obtain ⟨xs3, l3, rfl, rfl, rfl, w3⟩ := open_arr Try.underlying23 Try.underlying5 gcells_u8 gcells_a4 (hval 3 23 v3 rfl rfl) h3
  clear hA0 hval0 hval hA h0 h1 h2 h3
  simp only [List.append_nil] at hW'
  refine (gfTells_law x0 x1 x2 xs3 (byte_of_wf w0) (byte_of_wf w1) (word_of_wf w2) l3 (fun z hz => byte_of_wf (w3 z hz)) W).mono fun e W' ⟨he, hg⟩ => ?_
  subst he
  exact ⟨_, rfl, _, _, _, [], [], [], hW', trodAll_mk1 (shut_bool Try.underlying4 _), trodAll_mk4 (shut_int Try.underlying5 w0) (shut_int Try.underlying5 w1) (shut_int Try.underlying22 w2) (shut_arr Try.underlying23 Try.underlying5 gcells_u8 gcells_a4 l3 w3), rfl, hg.frame _, fun h => by cases h⟩

theorem gfTells_holds : Rows.GfTellsSaid :=
  OpenClaim.holds_of_wide 3 Try.f3 rfl rfl rfl rfl rfl rfl rfl ⟨rfl, rfl, rfl, rfl, rfl⟩ rfl rfl rfl rfl rfl (by kernel_rfl) Try.func3 (by kernel_rfl)
    (of_decide_eq_true (by kernel_rfl)) (by unfold Func.isWrapper; first | (rw [if_pos (by decide +kernel)]; kernel_rfl) | (rw [if_neg (by decide +kernel)]; exact ⟨rfl, rfl⟩))
    (fun os started H enc _ => gfTells_lifted os started H enc)
#print axioms gfTells_holds
end Go.Proofs.Ytohgnkpaaocjmaa
