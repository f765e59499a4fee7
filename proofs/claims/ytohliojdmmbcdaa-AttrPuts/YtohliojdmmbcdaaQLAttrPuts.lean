/- AttrPuts returns true for all that it is given. No condition. -/
import Derived.Test.YtohliojdmmbcdaaQAppZToAtIs
import Derived.Test.YtohliojdmmbcdaaQAtPk
import Derived.Test.YtohliojdmmbcdaaQAtPu
import Derived.Test.YtohliojdmmbcdaaQOwn
import Derived.Test.YtohliojdmmbcdaaQArrToAtD
namespace Go.Proofs.Ytohliojdmmbcdaa
open Go.RowKit
open Go.ChangeShapes Go.WideShapes Go.ChangeAt
set_option linter.unusedSimpArgs false
theorem attrPuts_law (l : List Ar) (ll : ∀ x ∈ l, x.ok) (t : List Ar) (lt : ∀ x ∈ t, x.ok) (z : Value) (b : List Nat) (low : lowB b) (w : World) {v u : Value} (h1 : Ats w v l) (h2 : Ats w u t) (h3 : By w z b) : Calls Try.prog 4 #[v, u, z] w fun e w' => e = .returned (.bool true) ∧ Below w.heap.size w w' := attrPuts_of atOverC atPackC atUnpC l ll t lt z b low w h1 h2 h3
set_option maxRecDepth 100000 in
theorem attrPuts_lifted (os : Os) (started : os.Started) (H : Type) (enc : TypeId × Value → H) :
    ReturnsInHanded {} Try.checked os 4 .any (Rows.attrPutsSpec.pre6 enc Try.prog Try.f4 Rows.attrPutsRow.domain false) (Rows.attrPutsSpec.post enc Try.prog Try.f4 false true false false) := by
  refine returnsInHanded_of_change (C := Try.checked) Try.own started (by kernel_rfl) Try.func4
    (ChangeSpec.witness6 (enc := enc) (C := Try.checked) false ⟨#[], #[.slice none 0 0, .slice none 0 0, .slice none 0 0], []⟩ 8 (by kernel_rfl) (by kernel_rfl) (by kernel_rfl) (by kernel_rfl)) ?_
  intro W base args ds gs before hval0 hW hcnd _
  have hval : ∀ (j : Nat) t v, Try.f4.params[j]? = some t → args[j]? = some v → Value.okWide Try.prog W .any base t v := hval0
  have hW' := hW
  obtain ⟨p, q, hA0, hV, rfl, hfz, hnd⟩ := hW
  have hA : DataW.TrodAll enc Try.prog W 0 (fun _ => true) true Try.f4.params.toList args.toList ds p := hA0
  rw [Try.params4] at hA hval
  obtain ⟨v0, v1, v2, d0, d1, d2, p0, p1, p2, rfl, rfl, rfl, h0, h1, h2⟩ := trodAll_three hA
  obtain ⟨rfl, rfl⟩ := trodVars_none hV
  simp only [List.append_nil] at hW'
  have hlt : ∀ x ∈ p0 ++ p1 ++ p2, x.block < W.heap.size := fun x hx => by simpa using hW'.lt x (by simpa using hx)
  have hk0 : ∀ W' : World, Below W.heap.size W W' → DataW.Trod enc Try.prog W' 0 (fun b => decide (b < W.heap.size)) true 22 v0 d0 p0 := fun W' hn => Below.trod Try.laidOut (by kernel_rfl) (of_decide_eq_true (by kernel_rfl)) h0 hn (fun x hx => hlt x (by simp [hx]))
  obtain ⟨a0, n0, c0, rfl⟩ := okWide_slice Try.uAttrs (hval 0 22 v0 rfl rfl)
  obtain ⟨fuel0, hf0⟩ := h0
  obtain ⟨l0, low0, hI0, len0⟩ := ats_open (v := .slice a0 n0 c0) (by simpa [Value.cells] using hf0)
  have hk1 : ∀ W' : World, Below W.heap.size W W' → DataW.Trod enc Try.prog W' 0 (fun b => decide (b < W.heap.size)) true 22 v1 d1 p1 := fun W' hn => Below.trod Try.laidOut (by kernel_rfl) (of_decide_eq_true (by kernel_rfl)) h1 hn (fun x hx => hlt x (by simp [hx]))
  obtain ⟨a1, n1, c1, rfl⟩ := okWide_slice Try.uAttrs (hval 1 22 v1 rfl rfl)
  obtain ⟨fuel1, hf1⟩ := h1
  obtain ⟨l1, low1, hI1, len1⟩ := ats_open (v := .slice a1 n1 c1) (by simpa [Value.cells] using hf1)
  have hk2 : ∀ W' : World, Below W.heap.size W W' → DataW.Trod enc Try.prog W' 0 (fun b => decide (b < W.heap.size)) true 33 v2 d2 p2 := fun W' hn => Below.trod Try.laidOut (by kernel_rfl) (of_decide_eq_true (by kernel_rfl)) h2 hn (fun x hx => hlt x (by simp [hx]))
  obtain ⟨a2, n2, c2, rfl⟩ := okWide_slice Try.uBytes (hval 2 33 v2 rfl rfl)
  obtain ⟨fuel2, hf2⟩ := h2
  obtain ⟨l2, low2, hI2, len2⟩ := by_of_trod (u := .slice a2 n2 c2) (by simpa [Value.cells] using hf2)
  refine (attrPuts_law l0 low0 l1 low1 _ l2 low2 W hI0 hI1 hI2).mono fun e W' ⟨he, hg⟩ => ?_
  subst he
  exact ⟨_, rfl, _, _, _, [], _, [], hW', trodAll_mk1 (shut_bool Try.underlying4 _), trodAll_mk3 (hk0 _ hg) (hk1 _ hg) (hk2 _ hg), rfl, hg.frame _, fun h => by cases h⟩

theorem attrPuts_holds : Rows.AttrPutsSaid :=
  OpenClaim.holds_of_wide 4 Try.f4 rfl rfl rfl rfl rfl rfl rfl ⟨rfl, rfl, rfl, rfl, rfl⟩ rfl rfl rfl rfl rfl (by kernel_rfl) Try.func4 (by kernel_rfl)
    (of_decide_eq_true (by kernel_rfl)) (by unfold Func.isWrapper; first | (rw [if_pos (by decide +kernel)]; kernel_rfl) | (rw [if_neg (by decide +kernel)]; exact ⟨rfl, rfl⟩))
    (fun os started H enc _ => attrPuts_lifted os started H enc)
#print axioms attrPuts_holds
end Go.Proofs.Ytohliojdmmbcdaa
