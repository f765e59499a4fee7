/- RuleMakes returns true for all that it is given. No condition. -/
import Derived.Test.YtepaapiflkkghaaQRlHToRlIs
import Derived.Test.YtepaapiflkkghaaQRuSeToRuMk
import Derived.Test.YtepaapiflkkghaaQAtOz
import Derived.Test.YtepaapiflkkghaaQOwn
import Derived.Test.YtepaapiflkkghaaQBKToAtD
namespace Go.Proofs.Ytepaapiflkkghaa
open Go.RowKit
open Go.ChangeShapes Go.WideShapes Go.ChangeAt
set_option linter.unusedSimpArgs false
theorem ruleMakes_law (x : Int) (hx : 0 ≤ x ∧ x < 256) (l : List Ar) (ll : ∀ x ∈ l, x.ok) (zl : l.length ≤ 140737488351232) (yl : ∀ x ∈ l, x.v.length ≤ 140737488351232) (b : Bool) (w : World) {v : Value} (h : Ats w v l) : Calls Try.prog 3 #[.int .u8 x, v, .bool b] w fun e w' => e = .returned (.bool true) ∧ Below w.heap.size w w' := by
  obtain ⟨c, rfl⟩ : ∃ c : Nat, x = (c : Int) := ⟨x.toNat, by omega⟩
  exact ruleMakes_of rlKindsC rlValidC rlHiddenC rlMakeC c (by omega) l ll zl yl b w h
set_option maxRecDepth 100000 in
theorem ruleMakes_lifted (os : Os) (started : os.Started) (H : Type) (enc : TypeId × Value → H) :
    ReturnsInHanded {} Try.checked os 3 .any (Rows.ruleMakesSpec.pre6 enc Try.prog Try.f3 Rows.ruleMakesRow.domain false) (Rows.ruleMakesSpec.post enc Try.prog Try.f3 false true false false) := by
  refine returnsInHanded_of_change_sized (C := Try.checked) Try.own started (by kernel_rfl) Try.func3
    (ChangeSpec.witness6 (enc := enc) (C := Try.checked) false ⟨#[], #[.int .u8 0, .slice none 0 0, .bool false], []⟩ 8 (by kernel_rfl) (by kernel_rfl) (by kernel_rfl) (by kernel_rfl)) ?_
  intro W base args ds gs before hval0 hW hcnd hsz0 _
  have hsz : (DataW.weightsEach Try.prog (Try.f3.params.toList ++ Rows.ruleMakesSpec.plain.varTypes Try.prog) (ds ++ gs)).all (· ≤ reachBytes) = true := hsz0
  have hval : ∀ (j : Nat) t v, Try.f3.params[j]? = some t → args[j]? = some v → Value.okWide Try.prog W .any base t v := hval0
  have hW' := hW
  obtain ⟨p, q, hA0, hV, rfl, hfz, hnd⟩ := hW
  have hA : DataW.TrodAll enc Try.prog W 0 (fun _ => true) true Try.f3.params.toList args.toList ds p := hA0
  rw [Try.params3] at hA hval hsz
  obtain ⟨v0, v1, v2, d0, d1, d2, p0, p1, p2, rfl, rfl, rfl, h0, h1, h2⟩ := trodAll_three hA
  obtain ⟨rfl, rfl⟩ := trodVars_none hV
  simp only [List.append_nil] at hW'
  have hlt : ∀ x ∈ p0 ++ p1 ++ p2, x.block < W.heap.size := fun x hx => by simpa using hW'.lt x (by simpa using hx)
  obtain ⟨x0, rfl, rfl, rfl, w0⟩ := open_int Try.uU8 (hval 0 5 v0 rfl rfl) h0
  have hk1 : ∀ W' : World, Below W.heap.size W W' → DataW.Trod enc Try.prog W' 0 (fun b => decide (b < W.heap.size)) true 22 v1 d1 p1 := fun W' hn => Below.trod Try.laidOut (by kernel_rfl) (of_decide_eq_true (by kernel_rfl)) h1 hn (fun x hx => hlt x (by simp [hx]))
  obtain ⟨a1, n1, c1, rfl⟩ := okWide_slice Try.uAttrs (hval 1 22 v1 rfl rfl)
  obtain ⟨fuel1, hf1⟩ := h1
  obtain ⟨l1, low1, zi1, hI1, len1⟩ := ats_openZ (v := .slice a1 n1 c1) (by simpa [Value.cells] using hf1) 140737488351232 (fun elems sp hd i dq es sp' he => by
    have hd' : d1 = .slice elems sp := hd
    subst hd'
    have := sized_innerA hsz (j := 1) rfl rfl he
    simp only [reachBytes] at this
    omega)
  have z1 : l1.length ≤ 140737488351232 := by
    rcases len1 with ⟨_, h⟩ | ⟨es, sp, hd, h⟩
    · rw [h]
      exact Nat.zero_le _
    · simp only at hd
      subst hd
      have := sized_slice hsz (j := 1) (t := 22) (e := 64) rfl rfl Try.uAttrs
      rw [show Try.prog.bytesOf 64 = 32 by kernel_rfl] at this
      simp only [reachBytes] at this
      omega
  obtain ⟨x2, rfl, rfl, rfl⟩ := open_bool uBoolR (hval 2 4 v2 rfl rfl) h2
  refine (ruleMakes_law x0 (byte_of_wf w0) l1 low1 z1 zi1 x2 W hI1).mono fun e W' ⟨he, hg⟩ => ?_
  subst he
  exact ⟨_, rfl, _, _, _, [], _, [], hW', trodAll_mk1 (shut_bool Try.underlying4 _), trodAll_mk3 (shut_int Try.uU8 w0) (hk1 _ hg) (shut_bool uBoolR x2), rfl, hg.frame _, fun h => by cases h⟩

theorem ruleMakes_holds : Rows.RuleMakesSaid :=
  OpenClaim.holds_of_wide 3 Try.f3 rfl rfl rfl rfl rfl rfl rfl ⟨rfl, rfl, rfl, rfl, rfl⟩ rfl rfl rfl rfl rfl (by kernel_rfl) Try.func3 (by kernel_rfl)
    (of_decide_eq_true (by kernel_rfl)) (by unfold Func.isWrapper; first | (rw [if_pos (by decide +kernel)]; kernel_rfl) | (rw [if_neg (by decide +kernel)]; exact ⟨rfl, rfl⟩))
    (fun os started H enc _ => ruleMakes_lifted os started H enc)
#print axioms ruleMakes_holds
end Go.Proofs.Ytepaapiflkkghaa
