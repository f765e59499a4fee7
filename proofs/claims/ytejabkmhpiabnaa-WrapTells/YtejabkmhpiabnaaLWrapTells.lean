/- WrapTells returns true for all that it is given. -/
import Derived.Test.YtejabkmhpiabnaaGrp8
import Derived.Test.YtejabkmhpiabnaaGrp45
import Derived.Test.YtejabkmhpiabnaaWrTells
namespace Go.Proofs.Ytejabkmhpiabnaa
open Go.RowKit
open Go.ChangeShapes Go.WideShapes Go.ChangeAt
set_option linter.unusedSimpArgs false
theorem wrapTells_law (v0 : Value) (l0 : List Nat) (o0 : lowB l0) (_ : l0.length ≤ 140737488351232) (v1 : Value) (l1 : List Nat) (o1 : lowB l1) (z1 : l1.length ≤ 140737488351232) (v2 : Value) (l2 : List Nat) (o2 : lowB l2) (z2 : l2.length ≤ 140737488351232) (w : World) (h0 : By w v0 l0) (h1 : By w v1 l1) (h2 : By w v2 l2) : Calls Try.prog 3 #[v0, v1, v2] w fun e w' => e = .returned (.bool true) ∧ Below w.heap.size w w' := wrapTells_of aesIs wrapIs unwrapIs v0 l0 o0 v1 l1 o1 z1 v2 l2 o2 z2 w trivial h0 h1 h2
set_option maxRecDepth 100000 in
theorem wrapTells_lifted (os : Os) (started : os.Started) (H : Type) (enc : TypeId × Value → H) :
    ReturnsInHanded {} Try.checked os 3 .any (Rows.wrapTellsSpec.pre6 enc Try.prog Try.f3 Rows.wrapTellsRow.domain false) (Rows.wrapTellsSpec.post enc Try.prog Try.f3 false true false false) := by
  refine returnsInHanded_of_change_sized (C := Try.checked) Try.own started (by kernel_rfl) Try.func3
    (ChangeSpec.witness6 (enc := enc) (C := Try.checked) false ⟨#[], #[.slice none 0 0, .slice none 0 0, .slice none 0 0], []⟩ 8 (by kernel_rfl) (by kernel_rfl) (by kernel_rfl) (by kernel_rfl)) ?_
  intro W base args ds gs before hval0 hW hcnd hsz0 _
  have hsz : (DataW.weightsEach Try.prog (Try.f3.params.toList ++ Rows.wrapTellsSpec.plain.varTypes Try.prog) (ds ++ gs)).all (· ≤ reachBytes) = true := hsz0
  have hval : ∀ (j : Nat) t v, Try.f3.params[j]? = some t → args[j]? = some v → Value.okWide Try.prog W .any base t v := hval0
  have hW' := hW
  obtain ⟨p, q, hA0, hV, rfl, hfz, hnd⟩ := hW
  have hA : DataW.TrodAll enc Try.prog W 0 (fun _ => true) true Try.f3.params.toList args.toList ds p := hA0
  rw [Try.params3] at hA hval hsz
  obtain ⟨v0, v1, v2, d0, d1, d2, p0, p1, p2, rfl, rfl, rfl, h0, h1, h2⟩ := trodAll_three hA
  obtain ⟨rfl, rfl⟩ := trodVars_none hV
  simp only [List.append_nil] at hW'
  have hlt : ∀ x ∈ p0 ++ p1 ++ p2, x.block < W.heap.size := fun x hx => by simpa using hW'.lt x (by simpa using hx)
  have hk0 : ∀ W' : World, Below W.heap.size W W' → DataW.Trod enc Try.prog W' 0 (fun b => decide (b < W.heap.size)) true 22 v0 d0 p0 := fun W' hn => Below.trod Try.laidOut (by kernel_rfl) (of_decide_eq_true (by kernel_rfl)) h0 hn (fun x hx => hlt x (by simp [hx]))
  obtain ⟨a0, n0, c0, rfl⟩ := okWide_slice Try.uBytes (hval 0 22 v0 rfl rfl)
  obtain ⟨fuel0, hf0⟩ := h0
  obtain ⟨l0, low0, hI0, len0⟩ := by_of_trod (u := .slice a0 n0 c0) (by simpa [Value.cells] using hf0)
  have z0 : l0.length ≤ 140737488351232 := by
    obtain ⟨a', c', e, _⟩ := hI0
    have en : n0 = l0.length := by cases e; rfl
    rw [← en]
    rcases len_of_trod (by simpa [Value.cells] using hf0) with ⟨_, h⟩ | ⟨es, sp, hd, h⟩
    · omega
    · simp only at hd
      subst hd
      have := sized_slice hsz (j := 0) (t := 22) (e := 5) rfl rfl Try.uBytes
      rw [Try.bytesU8] at this
      simp only [reachBytes] at this
      omega
  have hk1 : ∀ W' : World, Below W.heap.size W W' → DataW.Trod enc Try.prog W' 0 (fun b => decide (b < W.heap.size)) true 22 v1 d1 p1 := fun W' hn => Below.trod Try.laidOut (by kernel_rfl) (of_decide_eq_true (by kernel_rfl)) h1 hn (fun x hx => hlt x (by simp [hx]))
  obtain ⟨a1, n1, c1, rfl⟩ := okWide_slice Try.uBytes (hval 1 22 v1 rfl rfl)
  obtain ⟨fuel1, hf1⟩ := h1
  obtain ⟨l1, low1, hI1, len1⟩ := by_of_trod (u := .slice a1 n1 c1) (by simpa [Value.cells] using hf1)
  have z1 : l1.length ≤ 140737488351232 := by
    obtain ⟨a', c', e, _⟩ := hI1
    have en : n1 = l1.length := by cases e; rfl
    rw [← en]
    rcases len_of_trod (by simpa [Value.cells] using hf1) with ⟨_, h⟩ | ⟨es, sp, hd, h⟩
    · omega
    · simp only at hd
      subst hd
      have := sized_slice hsz (j := 1) (t := 22) (e := 5) rfl rfl Try.uBytes
      rw [Try.bytesU8] at this
      simp only [reachBytes] at this
      omega
  have hk2 : ∀ W' : World, Below W.heap.size W W' → DataW.Trod enc Try.prog W' 0 (fun b => decide (b < W.heap.size)) true 22 v2 d2 p2 := fun W' hn => Below.trod Try.laidOut (by kernel_rfl) (of_decide_eq_true (by kernel_rfl)) h2 hn (fun x hx => hlt x (by simp [hx]))
  obtain ⟨a2, n2, c2, rfl⟩ := okWide_slice Try.uBytes (hval 2 22 v2 rfl rfl)
  obtain ⟨fuel2, hf2⟩ := h2
  obtain ⟨l2, low2, hI2, len2⟩ := by_of_trod (u := .slice a2 n2 c2) (by simpa [Value.cells] using hf2)
  have z2 : l2.length ≤ 140737488351232 := by
    obtain ⟨a', c', e, _⟩ := hI2
    have en : n2 = l2.length := by cases e; rfl
    rw [← en]
    rcases len_of_trod (by simpa [Value.cells] using hf2) with ⟨_, h⟩ | ⟨es, sp, hd, h⟩
    · omega
    · simp only at hd
      subst hd
      have := sized_slice hsz (j := 2) (t := 22) (e := 5) rfl rfl Try.uBytes
      rw [Try.bytesU8] at this
      simp only [reachBytes] at this
      omega
  refine (wrapTells_law _ l0 low0 z0 _ l1 low1 z1 _ l2 low2 z2 W hI0 hI1 hI2).mono fun e W' ⟨he, hg⟩ => ?_
  subst he
  exact ⟨_, rfl, _, _, _, [], _, [], hW', trodAll_mk1 (shut_bool Try.underlying4 _), trodAll_mk3 (hk0 _ hg) (hk1 _ hg) (hk2 _ hg), rfl, hg.frame _, fun h => by cases h⟩

theorem wrapTells_holds : Rows.WrapTellsSaid :=
  OpenClaim.holds_of_wide 3 Try.f3 rfl rfl rfl rfl rfl rfl rfl ⟨rfl, rfl, rfl, rfl, rfl⟩ rfl rfl rfl rfl rfl (by kernel_rfl) Try.func3 (by kernel_rfl)
    (of_decide_eq_true (by kernel_rfl)) (by unfold Func.isWrapper; first | (rw [if_pos (by decide +kernel)]; kernel_rfl) | (rw [if_neg (by decide +kernel)]; exact ⟨rfl, rfl⟩))
    (fun os started H enc _ => wrapTells_lifted os started H enc)
#print axioms wrapTells_holds
end Go.Proofs.Ytejabkmhpiabnaa
