/- RuleValid returns true for all that it is given. No condition. -/
import Derived.Test.YtepaapiflkkghaaQRlHToRlIs
import Derived.Test.YtepaapiflkkghaaQRuSmToRuVd
import Derived.Test.YtepaapiflkkghaaQAtLmToAtIs
import Derived.Test.YtepaapiflkkghaaQAtOz
import Derived.Test.YtepaapiflkkghaaQOwn
import Derived.Test.YtepaapiflkkghaaQBKToAtD
namespace Go.Proofs.Ytepaapiflkkghaa
open Go.RowKit
open Go.ChangeShapes Go.WideShapes Go.ChangeAt
set_option linter.unusedSimpArgs false
theorem ruleValid_law (l : List Ar) (ll : ∀ x ∈ l, x.ok) (zl : l.length ≤ 140737488351232) (yl : ∀ x ∈ l, x.v.length ≤ 140737488351232) (b : Bool) (m : List Tu) (lm : ∀ x ∈ m, x.ok) (w : World) {v u : Value} (h : Ats w v l) (hu : Tus w u m) : Calls Try.prog 8 #[v, .bool b, u] w fun e w' => e = .returned (.bool true) ∧ Below w.heap.size w w' := ruleValid_of rlMakeC rlChangeC rlCopyC rlValidC atMatchC l ll zl yl b m lm w h hu
set_option maxRecDepth 100000 in
theorem ruleValid_lifted (os : Os) (started : os.Started) (H : Type) (enc : TypeId × Value → H) :
    ReturnsInHanded {} Try.checked os 8 .any (Rows.ruleValidSpec.pre6 enc Try.prog Try.f8 Rows.ruleValidRow.domain false) (Rows.ruleValidSpec.post enc Try.prog Try.f8 false true false false) := by
  refine returnsInHanded_of_change_sized (C := Try.checked) Try.own started (by kernel_rfl) Try.func8
    (ChangeSpec.witness6 (enc := enc) (C := Try.checked) false ⟨#[], #[.slice none 0 0, .bool false, .slice none 0 0], []⟩ 8 (by kernel_rfl) (by kernel_rfl) (by kernel_rfl) (by kernel_rfl)) ?_
  intro W base args ds gs before hval0 hW hcnd hsz0 _
  have hsz : (DataW.weightsEach Try.prog (Try.f8.params.toList ++ Rows.ruleValidSpec.plain.varTypes Try.prog) (ds ++ gs)).all (· ≤ reachBytes) = true := hsz0
  have hval : ∀ (j : Nat) t v, Try.f8.params[j]? = some t → args[j]? = some v → Value.okWide Try.prog W .any base t v := hval0
  have hW' := hW
  obtain ⟨p, q, hA0, hV, rfl, hfz, hnd⟩ := hW
  have hA : DataW.TrodAll enc Try.prog W 0 (fun _ => true) true Try.f8.params.toList args.toList ds p := hA0
  rw [Try.params8] at hA hval hsz
  obtain ⟨v0, v1, v2, d0, d1, d2, p0, p1, p2, rfl, rfl, rfl, h0, h1, h2⟩ := trodAll_three hA
  obtain ⟨rfl, rfl⟩ := trodVars_none hV
  simp only [List.append_nil] at hW'
  have hlt : ∀ x ∈ p0 ++ p1 ++ p2, x.block < W.heap.size := fun x hx => by simpa using hW'.lt x (by simpa using hx)
  have hk0 : ∀ W' : World, Below W.heap.size W W' → DataW.Trod enc Try.prog W' 0 (fun b => decide (b < W.heap.size)) true 22 v0 d0 p0 := fun W' hn => Below.trod Try.laidOut (by kernel_rfl) (of_decide_eq_true (by kernel_rfl)) h0 hn (fun x hx => hlt x (by simp [hx]))
  obtain ⟨a0, n0, c0, rfl⟩ := okWide_slice Try.uAttrs (hval 0 22 v0 rfl rfl)
  obtain ⟨fuel0, hf0⟩ := h0
  obtain ⟨l0, low0, zi0, hI0, len0⟩ := ats_openZ (v := .slice a0 n0 c0) (by simpa [Value.cells] using hf0) 140737488351232 (fun elems sp hd i dq es sp' he => by
    have hd' : d0 = .slice elems sp := hd
    subst hd'
    have := sized_innerA hsz (j := 0) rfl rfl he
    simp only [reachBytes] at this
    omega)
  have z0 : l0.length ≤ 140737488351232 := by
    rcases len0 with ⟨_, h⟩ | ⟨es, sp, hd, h⟩
    · rw [h]
      exact Nat.zero_le _
    · simp only at hd
      subst hd
      have := sized_slice hsz (j := 0) (t := 22) (e := 64) rfl rfl Try.uAttrs
      rw [show Try.prog.bytesOf 64 = 32 by kernel_rfl] at this
      simp only [reachBytes] at this
      omega
  obtain ⟨x1, rfl, rfl, rfl⟩ := open_bool uBoolR (hval 1 4 v1 rfl rfl) h1
  have hk2 : ∀ W' : World, Below W.heap.size W W' → DataW.Trod enc Try.prog W' 0 (fun b => decide (b < W.heap.size)) true 49 v2 d2 p2 := fun W' hn => Below.trod Try.laidOut (by kernel_rfl) (of_decide_eq_true (by kernel_rfl)) h2 hn (fun x hx => hlt x (by simp [hx]))
  obtain ⟨a2, n2, c2, rfl⟩ := okWide_slice Try.uTurns (hval 2 49 v2 rfl rfl)
  obtain ⟨fuel2, hf2⟩ := h2
  obtain ⟨l2, low2, hI2⟩ := tus_open (v := .slice a2 n2 c2) (by simpa [Value.cells] using hf2) (fun elems sp hd i dq es sp' he => by
    have hd' : d2 = .slice elems sp := hd
    subst hd'
    exact sized_innerU hsz (j := 2) rfl rfl he)
  refine (ruleValid_law l0 low0 z0 zi0 x1 l2 low2 W hI0 hI2).mono fun e W' ⟨he, hg⟩ => ?_
  subst he
  exact ⟨_, rfl, _, _, _, [], _, [], hW', trodAll_mk1 (shut_bool Try.underlying4 _), trodAll_mk3 (hk0 _ hg) (shut_bool uBoolR x1) (hk2 _ hg), rfl, hg.frame _, fun h => by cases h⟩

theorem ruleValid_holds : Rows.RuleValidSaid :=
  OpenClaim.holds_of_wide 8 Try.f8 rfl rfl rfl rfl rfl rfl rfl ⟨rfl, rfl, rfl, rfl, rfl⟩ rfl rfl rfl rfl rfl (by kernel_rfl) Try.func8 (by kernel_rfl)
    (of_decide_eq_true (by kernel_rfl)) (by unfold Func.isWrapper; first | (rw [if_pos (by decide +kernel)]; kernel_rfl) | (rw [if_neg (by decide +kernel)]; exact ⟨rfl, rfl⟩))
    (fun os started H enc _ => ruleValid_lifted os started H enc)
#print axioms ruleValid_holds
end Go.Proofs.Ytepaapiflkkghaa
