/- AttrMatch returns true for all that it is given, of at most 1048576 values in all. -/
import Derived.Test.YtohliojdmmbcdaaQAppZToAtIs
import Derived.Test.YtohliojdmmbcdaaQAtMt
import Derived.Test.YtohliojdmmbcdaaQBkP
import Derived.Test.YtohliojdmmbcdaaQOwn
import Derived.Test.YtohliojdmmbcdaaQArrToAtD
namespace Go.Proofs.Ytohliojdmmbcdaa
open Go.RowKit
open Go.ChangeShapes Go.WideShapes Go.ChangeAt
set_option linter.unusedSimpArgs false
theorem attrMatch_law (l : List Ar) (ll : ∀ x ∈ l, x.ok) (zl : l.length ≤ 1048576) (a : List Ar) (la : ∀ x ∈ a, x.ok) (za : a.length ≤ 1048576) (b : List Ar) (lb : ∀ x ∈ b, x.ok) (zb : b.length ≤ 1048576) (w : World) {v u z : Value} (h1 : Ats w v l) (h2 : Ats w u a) (h3 : Ats w z b) : Calls Try.prog 6 #[v, u, z] w fun e w' => e = .returned (.bool true) ∧ Below w.heap.size w w' := attrMatch_of atMatchC v u z l a b ll la lb zl za zb w h1 h2 h3
set_option maxRecDepth 100000 in
theorem attrMatch_lifted (os : Os) (started : os.Started) (H : Type) (enc : TypeId × Value → H) (F : Stop.Interp) :
    ReturnsInHanded {} Try.checked os 6 .any ((Rows.OpenSpec.upto Rows.attrMatchSpec).pre6 enc Try.prog Try.f6 Rows.attrMatchUptoRow.domain false) (((Rows.OpenSpec.upto Rows.attrMatchSpec).at F).post enc Try.prog Try.f6 false true false false) := by
  refine returnsInHanded_of_cond (C := Try.checked) (s := (Rows.OpenSpec.upto Rows.attrMatchSpec)) (k := Rows.uptoSmall) rfl Try.own started (by kernel_rfl) Try.func6
    (OpenSpec.witness (enc := enc) (C := Try.checked) (s := (Rows.OpenSpec.upto Rows.attrMatchSpec)) (k := Rows.uptoSmall) rfl false ⟨#[], #[.slice none 0 0, .slice none 0 0, .slice none 0 0], []⟩ 8 (by kernel_rfl) (by kernel_rfl) (by kernel_rfl)
      (x := ([.nil, .nil, .nil], [], [])) (by kernel_rfl) rfl (by kernel_rfl)) ?_
  intro W base args ds gs before hval0 hW _ hk _
  have hval : ∀ (j : Nat) t v, Try.f6.params[j]? = some t → args[j]? = some v → Value.okWide Try.prog W .any base t v := hval0
  have hW' := hW
  obtain ⟨p, q, hA0, hV, rfl, hfz, hnd⟩ := hW
  have hA : DataW.TrodAll enc Try.prog W 0 (fun _ => true) true Try.f6.params.toList args.toList ds p := hA0
  rw [Try.params6] at hA hval
  obtain ⟨v0, vs0, d0, ds0, p0, q0, hargs, rfl, rfl, h0, r0⟩ := trodAll_cons hA
  obtain ⟨v1, vs1, d1, ds1, p1, q1, rfl, rfl, rfl, h1, r1⟩ := trodAll_cons r0
  obtain ⟨v2, vs2, d2, ds2, p2, q2, rfl, rfl, rfl, h2, r2⟩ := trodAll_cons r1
  obtain ⟨rfl, rfl, rfl⟩ := trodAll_nil r2
  have eargs : args = #[v0, v1, v2] := by
    obtain ⟨l⟩ := args
    simp at hargs
    simp [hargs]
  subst eargs
  obtain ⟨rfl, rfl⟩ := trodVars_none hV
  have hbd := of_decide_eq_true hk
  simp only [Rows.uptoBulkAll, List.cons_append, List.nil_append] at hbd
  simp only [List.append_nil] at hW'
  have hlt : ∀ x ∈ p0 ++ p1 ++ p2, x.block < W.heap.size := fun x hx => by simpa using hW'.lt x (by simpa using hx)
  have hk0 : ∀ W' : World, Below W.heap.size W W' → DataW.Trod enc Try.prog W' 0 (fun b => decide (b < W.heap.size)) true 22 v0 d0 p0 := fun W' hn => Below.trod Try.laidOut (by kernel_rfl) (of_decide_eq_true (by kernel_rfl)) h0 hn (fun x hx => hlt x (by simp [hx]))
  obtain ⟨a0, n0, c0, rfl⟩ := okWide_slice Try.uAttrs (hval 0 22 v0 rfl rfl)
  obtain ⟨fuel0, hf0⟩ := h0
  obtain ⟨l0, low0, hI0, len0⟩ := ats_open (v := .slice a0 n0 c0) (by simpa [Value.cells] using hf0)
  have z0 : l0.length ≤ 1048576 := by
    rcases len0 with ⟨_, h⟩ | ⟨es, sp, hd, h⟩
    · rw [h]
      exact Nat.zero_le _
    · simp only at hd
      subst hd
      have := bulkP_le es sp
      omega
  have hk1 : ∀ W' : World, Below W.heap.size W W' → DataW.Trod enc Try.prog W' 0 (fun b => decide (b < W.heap.size)) true 22 v1 d1 p1 := fun W' hn => Below.trod Try.laidOut (by kernel_rfl) (of_decide_eq_true (by kernel_rfl)) h1 hn (fun x hx => hlt x (by simp [hx]))
  obtain ⟨a1, n1, c1, rfl⟩ := okWide_slice Try.uAttrs (hval 1 22 v1 rfl rfl)
  obtain ⟨fuel1, hf1⟩ := h1
  obtain ⟨l1, low1, hI1, len1⟩ := ats_open (v := .slice a1 n1 c1) (by simpa [Value.cells] using hf1)
  have z1 : l1.length ≤ 1048576 := by
    rcases len1 with ⟨_, h⟩ | ⟨es, sp, hd, h⟩
    · rw [h]
      exact Nat.zero_le _
    · simp only at hd
      subst hd
      have := bulkP_le es sp
      omega
  have hk2 : ∀ W' : World, Below W.heap.size W W' → DataW.Trod enc Try.prog W' 0 (fun b => decide (b < W.heap.size)) true 22 v2 d2 p2 := fun W' hn => Below.trod Try.laidOut (by kernel_rfl) (of_decide_eq_true (by kernel_rfl)) h2 hn (fun x hx => hlt x (by simp [hx]))
  obtain ⟨a2, n2, c2, rfl⟩ := okWide_slice Try.uAttrs (hval 2 22 v2 rfl rfl)
  obtain ⟨fuel2, hf2⟩ := h2
  obtain ⟨l2, low2, hI2, len2⟩ := ats_open (v := .slice a2 n2 c2) (by simpa [Value.cells] using hf2)
  have z2 : l2.length ≤ 1048576 := by
    rcases len2 with ⟨_, h⟩ | ⟨es, sp, hd, h⟩
    · rw [h]
      exact Nat.zero_le _
    · simp only at hd
      subst hd
      have := bulkP_le es sp
      omega
  refine (attrMatch_law l0 low0 z0 l1 low1 z1 l2 low2 z2 W hI0 hI1 hI2).mono fun e W' ⟨he, hg⟩ => ?_
  subst he
  exact ⟨_, rfl, _, _, _, [], _, [], hW', trodAll_mk1 (shut_bool Try.underlying4 _), trodAll_cons_mk (hk0 _ hg) (trodAll_cons_mk (hk1 _ hg) (trodAll_cons_mk (hk2 _ hg) (trodAll_mk0))), rfl, hg.frame _, fun h => by cases h⟩

theorem attrMatch_holds : Rows.AttrMatchUptoSaid :=
  OpenClaim.holds_of_cond 6 Try.f6 rfl rfl rfl rfl rfl rfl rfl ⟨rfl, rfl, rfl, rfl, rfl⟩ rfl rfl rfl rfl rfl (by kernel_rfl) Try.func6 (by kernel_rfl)
    (of_decide_eq_true (by kernel_rfl)) (by unfold Func.isWrapper; first | (rw [if_pos (by decide +kernel)]; kernel_rfl) | (rw [if_neg (by decide +kernel)]; exact ⟨rfl, rfl⟩))
    (fun os started H enc _ F => attrMatch_lifted os started H enc F)
#print axioms attrMatch_holds
end Go.Proofs.Ytohliojdmmbcdaa
