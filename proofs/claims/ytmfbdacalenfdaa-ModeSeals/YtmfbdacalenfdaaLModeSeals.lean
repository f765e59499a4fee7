/- ModeSeals returns true for all that it is given. -/
import Derived.Test.YtmfbdacalenfdaaGrp8
import Derived.Test.YtmfbdacalenfdaaGrp33
import Derived.Test.YtmfbdacalenfdaaMdSeals
namespace Go.Proofs.Ytmfbdacalenfdaa
open Go.RowKit
open Go.ChangeShapes Go.WideShapes Go.ChangeAt
set_option linter.unusedSimpArgs false
theorem modeSeals_law (v0 : Value) (l0 : List Nat) (o0 : lowB l0) (_ : l0.length ≤ 140737488351232) (xs : List Int) (lx : xs.length = 16) (hx : ∀ z ∈ xs, 0 ≤ z ∧ z < 256) (v2 : Value) (l2 : List Nat) (o2 : lowB l2) (z2 : l2.length ≤ 140737488351232) (v3 : Value) (l3 : List Nat) (o3 : lowB l3) (z3 : l3.length ≤ 140737488351232) (w : World) (h0 : By w v0 l0) (h2 : By w v2 l2) (h3 : By w v3 l3) : Calls Try.prog 4 #[v0, .agg (xs.map (Value.int .u8)).toArray, v2, v3] w fun e w' => e = .returned (.bool true) ∧ Below w.heap.size w w' := by
  obtain ⟨b, e1, l1, b1⟩ := ans_of xs hx
  rw [e1]
  exact modeSeals_of aesIs modeIs v0 l0 o0 b ⟨l1.trans lx, b1⟩ v2 l2 o2 z2 v3 l3 o3 z3 w trivial h0 h2 h3
set_option maxRecDepth 100000 in
theorem modeSeals_lifted (os : Os) (started : os.Started) (H : Type) (enc : TypeId × Value → H) :
    ReturnsInHanded {} Try.checked os 4 .any (Rows.modeSealsSpec.pre6 enc Try.prog Try.f4 Rows.modeSealsRow.domain false) (Rows.modeSealsSpec.post enc Try.prog Try.f4 false true false false) := by
  refine returnsInHanded_of_change_sized (C := Try.checked) Try.own started (by kernel_rfl) Try.func4
    (ChangeSpec.witness6 (enc := enc) (C := Try.checked) false ⟨#[], #[.slice none 0 0, .agg #[.int .u8 0, .int .u8 0, .int .u8 0, .int .u8 0, .int .u8 0, .int .u8 0, .int .u8 0, .int .u8 0, .int .u8 0, .int .u8 0, .int .u8 0, .int .u8 0, .int .u8 0, .int .u8 0, .int .u8 0, .int .u8 0], .slice none 0 0, .slice none 0 0], []⟩ 8 (by kernel_rfl) (by kernel_rfl) (by kernel_rfl) (by kernel_rfl)) ?_
  intro W base args ds gs before hval0 hW hcnd hsz0 _
  have hsz : (DataW.weightsEach Try.prog (Try.f4.params.toList ++ Rows.modeSealsSpec.plain.varTypes Try.prog) (ds ++ gs)).all (· ≤ reachBytes) = true := hsz0
  have hval : ∀ (j : Nat) t v, Try.f4.params[j]? = some t → args[j]? = some v → Value.okWide Try.prog W .any base t v := hval0
  have hW' := hW
  obtain ⟨p, q, hA0, hV, rfl, hfz, hnd⟩ := hW
  have hA : DataW.TrodAll enc Try.prog W 0 (fun _ => true) true Try.f4.params.toList args.toList ds p := hA0
  rw [Try.params4] at hA hval hsz
  obtain ⟨v0, v1, v2, v3, d0, d1, d2, d3, p0, p1, p2, p3, rfl, rfl, rfl, h0, h1, h2, h3⟩ := trodAll_four hA
  obtain ⟨rfl, rfl⟩ := trodVars_none hV
  simp only [List.append_nil] at hW'
  have hlt : ∀ x ∈ p0 ++ p1 ++ p2 ++ p3, x.block < W.heap.size := fun x hx => by simpa using hW'.lt x (by simpa using hx)
  have hk0 : ∀ W' : World, Below W.heap.size W W' → DataW.Trod enc Try.prog W' 0 (fun b => decide (b < W.heap.size)) true 22 v0 d0 p0 := fun W' hn => Below.trod Try.laidOut (by kernel_rfl) (of_decide_eq_true (by kernel_rfl)) h0 hn (fun x hx => hlt x (by simp [hx]))
  obtain ⟨a0, n0, c0, rfl⟩ := okWide_slice Try.uBytes (hval 0 22 v0 rfl rfl)
  obtain ⟨fuel0, hf0⟩ := h0
  obtain ⟨l0, low0, hI0, len0⟩ := by_of_trod (u := .slice a0 n0 c0) (by simpa [Value.cells] using hf0)
  have z0 : l0.length ≤ 140737488351232 := by
    obtain ⟨a', c', e, _⟩ := hI0
    have en : n0 = l0.length := by cases e; rfl
    rw [← en]
    rcases len_of_trod (by simpa [Value.cells] using hf0) with ⟨_, h⟩ | ⟨es, sp, hd, h⟩
    · omega
    · simp only at hd
      subst hd
      have := sized_slice hsz (j := 0) (t := 22) (e := 5) rfl rfl Try.uBytes
      rw [Try.bytesU8] at this
      simp only [reachBytes] at this
      omega
  obtain ⟨xs1, l1, rfl, rfl, rfl, w1⟩ := open_arr bu_a16 Try.uU8 Try.cellsU8 cells_a16 (hval 1 23 v1 rfl rfl) h1
  have hk2 : ∀ W' : World, Below W.heap.size W W' → DataW.Trod enc Try.prog W' 0 (fun b => decide (b < W.heap.size)) true 22 v2 d2 p2 := fun W' hn => Below.trod Try.laidOut (by kernel_rfl) (of_decide_eq_true (by kernel_rfl)) h2 hn (fun x hx => hlt x (by simp [hx]))
  obtain ⟨a2, n2, c2, rfl⟩ := okWide_slice Try.uBytes (hval 2 22 v2 rfl rfl)
  obtain ⟨fuel2, hf2⟩ := h2
  obtain ⟨l2, low2, hI2, len2⟩ := by_of_trod (u := .slice a2 n2 c2) (by simpa [Value.cells] using hf2)
  have z2 : l2.length ≤ 140737488351232 := by
    obtain ⟨a', c', e, _⟩ := hI2
    have en : n2 = l2.length := by cases e; rfl
    rw [← en]
    rcases len_of_trod (by simpa [Value.cells] using hf2) with ⟨_, h⟩ | ⟨es, sp, hd, h⟩
    · omega
    · simp only at hd
      subst hd
      have := sized_slice hsz (j := 2) (t := 22) (e := 5) rfl rfl Try.uBytes
      rw [Try.bytesU8] at this
      simp only [reachBytes] at this
      omega
  have hk3 : ∀ W' : World, Below W.heap.size W W' → DataW.Trod enc Try.prog W' 0 (fun b => decide (b < W.heap.size)) true 22 v3 d3 p3 := fun W' hn => Below.trod Try.laidOut (by kernel_rfl) (of_decide_eq_true (by kernel_rfl)) h3 hn (fun x hx => hlt x (by simp [hx]))
  obtain ⟨a3, n3, c3, rfl⟩ := okWide_slice Try.uBytes (hval 3 22 v3 rfl rfl)
  obtain ⟨fuel3, hf3⟩ := h3
  obtain ⟨l3, low3, hI3, len3⟩ := by_of_trod (u := .slice a3 n3 c3) (by simpa [Value.cells] using hf3)
  have z3 : l3.length ≤ 140737488351232 := by
    obtain ⟨a', c', e, _⟩ := hI3
    have en : n3 = l3.length := by cases e; rfl
    rw [← en]
    rcases len_of_trod (by simpa [Value.cells] using hf3) with ⟨_, h⟩ | ⟨es, sp, hd, h⟩
    · omega
    · simp only at hd
      subst hd
      have := sized_slice hsz (j := 3) (t := 22) (e := 5) rfl rfl Try.uBytes
      rw [Try.bytesU8] at this
      simp only [reachBytes] at this
      omega
  refine (modeSeals_law _ l0 low0 z0 xs1 l1 (fun z hz => byte_of_wf (w1 z hz)) _ l2 low2 z2 _ l3 low3 z3 W hI0 hI2 hI3).mono fun e W' ⟨he, hg⟩ => ?_
  subst he
  exact ⟨_, rfl, _, _, _, [], _, [], hW', trodAll_mk1 (shut_bool Try.underlying4 _), trodAll_mk4 (hk0 _ hg) (shut_arr bu_a16 Try.uU8 Try.cellsU8 cells_a16 l1 w1) (hk2 _ hg) (hk3 _ hg), rfl, hg.frame _, fun h => by cases h⟩

theorem modeSeals_holds : Rows.ModeSealsSaid :=
  OpenClaim.holds_of_wide 4 Try.f4 rfl rfl rfl rfl rfl rfl rfl ⟨rfl, rfl, rfl, rfl, rfl⟩ rfl rfl rfl rfl rfl (by kernel_rfl) Try.func4 (by kernel_rfl)
    (of_decide_eq_true (by kernel_rfl)) (by unfold Func.isWrapper; first | (rw [if_pos (by decide +kernel)]; kernel_rfl) | (rw [if_neg (by decide +kernel)]; exact ⟨rfl, rfl⟩))
    (fun os started H enc _ => modeSeals_lifted os started H enc)
#print axioms modeSeals_holds
end Go.Proofs.Ytmfbdacalenfdaa
