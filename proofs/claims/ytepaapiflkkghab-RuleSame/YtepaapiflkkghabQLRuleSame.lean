/- RuleSame returns true for all that it is given. No condition. -/
import Derived.Test.YtepaapiflkkghabQRlIs
import Derived.Test.YtepaapiflkkghabQRuSa
import Derived.Test.YtepaapiflkkghabQAtOz
import Derived.Test.YtepaapiflkkghabQOwn
import Derived.Test.YtepaapiflkkghabQArrToAtD
namespace Go.Proofs.Ytepaapiflkkghab
open Go.RowKit
open Go.ChangeShapes Go.WideShapes Go.ChangeAt
set_option linter.unusedSimpArgs false
theorem ruleSame_law (l : List Ar) (ll : ∀ x ∈ l, x.ok) (zl : l.length ≤ 140737488351232) (yl : ∀ x ∈ l, x.v.length ≤ 140737488351232) (b : Bool) (k : Int) (hk : -9223372036854775808 ≤ k ∧ k ≤ 9223372036854775807) (w : World) {v : Value} (h : Ats w v l) : Calls Try.prog 4 #[v, .bool b, .int .i64 k] w fun e w' => e = .returned (.bool true) ∧ Below w.heap.size w w' := ruleSame_of rlMakeC rlChangeC atGetC atIsC l ll zl yl b k hk w h
set_option maxRecDepth 100000 in
theorem ruleSame_lifted (os : Os) (started : os.Started) (H : Type) (enc : TypeId × Value → H) :
    ReturnsInHanded {} Try.checked os 4 .any (Rows.ruleSameSpec.pre6 enc Try.prog Try.f4 Rows.ruleSameRow.domain false) (Rows.ruleSameSpec.post enc Try.prog Try.f4 false true false false) := by
  refine returnsInHanded_of_change_sized (C := Try.checked) Try.own started (by kernel_rfl) Try.func4
    (ChangeSpec.witness6 (enc := enc) (C := Try.checked) false ⟨#[], #[.slice none 0 0, .bool false, .int .i64 0], []⟩ 8 (by kernel_rfl) (by kernel_rfl) (by kernel_rfl) (by kernel_rfl)) ?_
  intro W base args ds gs before hval0 hW hcnd hsz0 _
  have hsz : (DataW.weightsEach Try.prog (Try.f4.params.toList ++ Rows.ruleSameSpec.plain.varTypes Try.prog) (ds ++ gs)).all (· ≤ reachBytes) = true := hsz0
  have hval : ∀ (j : Nat) t v, Try.f4.params[j]? = some t → args[j]? = some v → Value.okWide Try.prog W .any base t v := hval0
  have hW' := hW
  obtain ⟨p, q, hA0, hV, rfl, hfz, hnd⟩ := hW
  have hA : DataW.TrodAll enc Try.prog W 0 (fun _ => true) true Try.f4.params.toList args.toList ds p := hA0
  rw [Try.params4] at hA hval hsz
  obtain ⟨v0, v1, v2, d0, d1, d2, p0, p1, p2, rfl, rfl, rfl, h0, h1, h2⟩ := trodAll_three hA
  obtain ⟨rfl, rfl⟩ := trodVars_none hV
  simp only [List.append_nil] at hW'
  have hlt : ∀ x ∈ p0 ++ p1 ++ p2, x.block < W.heap.size := fun x hx => by simpa using hW'.lt x (by simpa using hx)
  have hk0 : ∀ W' : World, Below W.heap.size W W' → DataW.Trod enc Try.prog W' 0 (fun b => decide (b < W.heap.size)) true 22 v0 d0 p0 := fun W' hn => Below.trod Try.laidOut (by kernel_rfl) (of_decide_eq_true (by kernel_rfl)) h0 hn (fun x hx => hlt x (by simp [hx]))
  obtain ⟨a0, n0, c0, rfl⟩ := okWide_slice Try.uAttrs (hval 0 22 v0 rfl rfl)
  obtain ⟨fuel0, hf0⟩ := h0
  obtain ⟨l0, low0, zi0, hI0, len0⟩ := ats_openZ (v := .slice a0 n0 c0) (by simpa [Value.cells] using hf0) 140737488351232 (fun elems sp hd i dq es sp' he => by
    have hd' : d0 = .slice elems sp := hd
    subst hd'
    have := sized_innerA hsz (j := 0) rfl rfl he
    simp only [reachBytes] at this
    omega)
  have z0 : l0.length ≤ 140737488351232 := by
    rcases len0 with ⟨_, h⟩ | ⟨es, sp, hd, h⟩
    · rw [h]
      exact Nat.zero_le _
    · simp only at hd
      subst hd
      have := sized_slice hsz (j := 0) (t := 22) (e := 38) rfl rfl Try.uAttrs
      rw [show Try.prog.bytesOf 38 = 32 by kernel_rfl] at this
      simp only [reachBytes] at this
      omega
  obtain ⟨x1, rfl, rfl, rfl⟩ := open_bool uBoolR (hval 1 4 v1 rfl rfl) h1
  obtain ⟨x2, rfl, rfl, rfl, w2⟩ := open_int Try.underlying3 (hval 2 3 v2 rfl rfl) h2
  refine (ruleSame_law l0 low0 z0 zi0 x1 x2 (int_of_wf w2) W hI0).mono fun e W' ⟨he, hg⟩ => ?_
  subst he
  exact ⟨_, rfl, _, _, _, [], _, [], hW', trodAll_mk1 (shut_bool Try.underlying4 _), trodAll_mk3 (hk0 _ hg) (shut_bool uBoolR x1) (shut_int Try.underlying3 w2), rfl, hg.frame _, fun h => by cases h⟩

theorem ruleSame_holds : Rows.RuleSameSaid :=
  OpenClaim.holds_of_wide 4 Try.f4 rfl rfl rfl rfl rfl rfl rfl ⟨rfl, rfl, rfl, rfl, rfl⟩ rfl rfl rfl rfl rfl (by kernel_rfl) Try.func4 (by kernel_rfl)
    (of_decide_eq_true (by kernel_rfl)) (by unfold Func.isWrapper; first | (rw [if_pos (by decide +kernel)]; kernel_rfl) | (rw [if_neg (by decide +kernel)]; exact ⟨rfl, rfl⟩))
    (fun os started H enc _ => ruleSame_lifted os started H enc)
#print axioms ruleSame_holds
end Go.Proofs.Ytepaapiflkkghab
