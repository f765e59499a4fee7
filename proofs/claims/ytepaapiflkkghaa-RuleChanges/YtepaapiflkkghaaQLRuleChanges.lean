/- RuleChanges returns true for all that it is given. No condition. -/
import Derived.Test.YtepaapiflkkghaaQRlHToRlIs
import Derived.Test.YtepaapiflkkghaaQRuCh
import Derived.Test.YtepaapiflkkghaaQAtOz
import Derived.Test.YtepaapiflkkghaaQOwn
import Derived.Test.YtepaapiflkkghaaQBKToAtD
namespace Go.Proofs.Ytepaapiflkkghaa
open Go.RowKit
open Go.ChangeShapes Go.WideShapes Go.ChangeAt
set_option linter.unusedSimpArgs false
theorem ruleChanges_law (l : List Ar) (ll : ∀ x ∈ l, x.ok) (zl : l.length ≤ 140737488351232) (yl : ∀ x ∈ l, x.v.length ≤ 140737488351232) (t : List Ar) (lt : ∀ x ∈ t, x.ok) (zt : t.length ≤ 140737488351232) (yt : ∀ x ∈ t, x.v.length ≤ 140737488351232) (w : World) {v u : Value} (h1 : Ats w v l) (h2 : Ats w u t) : Calls Try.prog 4 #[v, u] w fun e w' => e = .returned (.bool true) ∧ Below w.heap.size w w' := ruleChanges_of rlChangeC rlCopyC l ll zl yl t lt zt yt w h1 h2
set_option maxRecDepth 100000 in
theorem ruleChanges_lifted (os : Os) (started : os.Started) (H : Type) (enc : TypeId × Value → H) :
    ReturnsInHanded {} Try.checked os 4 .any (Rows.ruleChangesSpec.pre6 enc Try.prog Try.f4 Rows.ruleChangesRow.domain false) (Rows.ruleChangesSpec.post enc Try.prog Try.f4 false true false false) := by
  refine returnsInHanded_of_change_sized (C := Try.checked) Try.own started (by kernel_rfl) Try.func4
    (ChangeSpec.witness6 (enc := enc) (C := Try.checked) false ⟨#[], #[.slice none 0 0, .slice none 0 0], []⟩ 8 (by kernel_rfl) (by kernel_rfl) (by kernel_rfl) (by kernel_rfl)) ?_
  intro W base args ds gs before hval0 hW hcnd hsz0 _
  have hsz : (DataW.weightsEach Try.prog (Try.f4.params.toList ++ Rows.ruleChangesSpec.plain.varTypes Try.prog) (ds ++ gs)).all (· ≤ reachBytes) = true := hsz0
  have hval : ∀ (j : Nat) t v, Try.f4.params[j]? = some t → args[j]? = some v → Value.okWide Try.prog W .any base t v := hval0
  have hW' := hW
  obtain ⟨p, q, hA0, hV, rfl, hfz, hnd⟩ := hW
  have hA : DataW.TrodAll enc Try.prog W 0 (fun _ => true) true Try.f4.params.toList args.toList ds p := hA0
  rw [Try.params4] at hA hval hsz
  obtain ⟨v0, v1, d0, d1, p0, p1, rfl, rfl, rfl, h0, h1⟩ := trodAll_two hA
  obtain ⟨rfl, rfl⟩ := trodVars_none hV
  simp only [List.append_nil] at hW'
  have hlt : ∀ x ∈ p0 ++ p1, x.block < W.heap.size := fun x hx => by simpa using hW'.lt x (by simpa using hx)
  have hk0 : ∀ W' : World, Below W.heap.size W W' → DataW.Trod enc Try.prog W' 0 (fun b => decide (b < W.heap.size)) true 22 v0 d0 p0 := fun W' hn => Below.trod Try.laidOut (by kernel_rfl) (of_decide_eq_true (by kernel_rfl)) h0 hn (fun x hx => hlt x (by simp [hx]))
  obtain ⟨a0, n0, c0, rfl⟩ := okWide_slice Try.uAttrs (hval 0 22 v0 rfl rfl)
  obtain ⟨fuel0, hf0⟩ := h0
  obtain ⟨l0, low0, zi0, hI0, len0⟩ := ats_openZ (v := .slice a0 n0 c0) (by simpa [Value.cells] using hf0) 140737488351232 (fun elems sp hd i dq es sp' he => by
    have hd' : d0 = .slice elems sp := hd
    subst hd'
    have := sized_innerA hsz (j := 0) rfl rfl he
    simp only [reachBytes] at this
    omega)
  have z0 : l0.length ≤ 140737488351232 := by
    rcases len0 with ⟨_, h⟩ | ⟨es, sp, hd, h⟩
    · rw [h]
      exact Nat.zero_le _
    · simp only at hd
      subst hd
      have := sized_slice hsz (j := 0) (t := 22) (e := 64) rfl rfl Try.uAttrs
      rw [show Try.prog.bytesOf 64 = 32 by kernel_rfl] at this
      simp only [reachBytes] at this
      omega
  have hk1 : ∀ W' : World, Below W.heap.size W W' → DataW.Trod enc Try.prog W' 0 (fun b => decide (b < W.heap.size)) true 22 v1 d1 p1 := fun W' hn => Below.trod Try.laidOut (by kernel_rfl) (of_decide_eq_true (by kernel_rfl)) h1 hn (fun x hx => hlt x (by simp [hx]))
  obtain ⟨a1, n1, c1, rfl⟩ := okWide_slice Try.uAttrs (hval 1 22 v1 rfl rfl)
  obtain ⟨fuel1, hf1⟩ := h1
  obtain ⟨l1, low1, zi1, hI1, len1⟩ := ats_openZ (v := .slice a1 n1 c1) (by simpa [Value.cells] using hf1) 140737488351232 (fun elems sp hd i dq es sp' he => by
    have hd' : d1 = .slice elems sp := hd
    subst hd'
    have := sized_innerA hsz (j := 1) rfl rfl he
    simp only [reachBytes] at this
    omega)
  have z1 : l1.length ≤ 140737488351232 := by
    rcases len1 with ⟨_, h⟩ | ⟨es, sp, hd, h⟩
    · rw [h]
      exact Nat.zero_le _
    · simp only at hd
      subst hd
      have := sized_slice hsz (j := 1) (t := 22) (e := 64) rfl rfl Try.uAttrs
      rw [show Try.prog.bytesOf 64 = 32 by kernel_rfl] at this
      simp only [reachBytes] at this
      omega
  refine (ruleChanges_law l0 low0 z0 zi0 l1 low1 z1 zi1 W hI0 hI1).mono fun e W' ⟨he, hg⟩ => ?_
  subst he
  exact ⟨_, rfl, _, _, _, [], _, [], hW', trodAll_mk1 (shut_bool Try.underlying4 _), trodAll_mk2 (hk0 _ hg) (hk1 _ hg), rfl, hg.frame _, fun h => by cases h⟩

theorem ruleChanges_holds : Rows.RuleChangesSaid :=
  OpenClaim.holds_of_wide 4 Try.f4 rfl rfl rfl rfl rfl rfl rfl ⟨rfl, rfl, rfl, rfl, rfl⟩ rfl rfl rfl rfl rfl (by kernel_rfl) Try.func4 (by kernel_rfl)
    (of_decide_eq_true (by kernel_rfl)) (by unfold Func.isWrapper; first | (rw [if_pos (by decide +kernel)]; kernel_rfl) | (rw [if_neg (by decide +kernel)]; exact ⟨rfl, rfl⟩))
    (fun os started H enc _ => ruleChanges_lifted os started H enc)
#print axioms ruleChanges_holds
end Go.Proofs.Ytepaapiflkkghaa
