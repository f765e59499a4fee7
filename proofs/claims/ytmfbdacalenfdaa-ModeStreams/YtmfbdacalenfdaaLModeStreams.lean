/- ModeStreams returns true for all that it is given. -/
import Derived.Test.YtmfbdacalenfdaaGrp8
import Derived.Test.YtmfbdacalenfdaaModeIs
import Derived.Test.YtmfbdacalenfdaaGrp54
namespace Go.Proofs.Ytmfbdacalenfdaa
open Go.RowKit
open Go.ChangeShapes Go.WideShapes Go.ChangeAt
set_option linter.unusedSimpArgs false
theorem Try.uU64 : Try.prog.underlying 24 = some (.int .u64) := by kernel_rfl
theorem modeStreams_law (v0 : Value) (l0 : List Nat) (o0 : lowB l0) (_ : l0.length ≤ 140737488351232) (xs : List Int) (lx : xs.length = 16) (hx : ∀ z ∈ xs, 0 ≤ z ∧ z < 256) (x2 : Int) (w2 : 0 ≤ x2 ∧ x2 < 18446744073709551616) (v3 : Value) (l3 : List Nat) (o3 : lowB l3) (z3 : l3.length ≤ 140737488351232) (w : World) (h0 : By w v0 l0) (h3 : By w v3 l3) : Calls Try.prog 3 #[v0, .agg (xs.map (Value.int .u8)).toArray, .int .u64 x2, v3] w fun e w' => e = .returned (.bool true) ∧ Below w.heap.size w w' := by
  obtain ⟨b, e1, l1, b1⟩ := ans_of xs hx
  rw [e1]
  obtain ⟨q, rfl⟩ := an_of w2.1
  exact modeStreams_of aesIs streamIs v0 l0 o0 b ⟨l1.trans lx, b1⟩ q (by omega) v3 l3 o3 z3 w trivial h0 h3
set_option maxRecDepth 100000 in
theorem modeStreams_lifted (os : Os) (started : os.Started) (H : Type) (enc : TypeId × Value → H) :
    ReturnsInHanded {} Try.checked os 3 .any (Rows.modeStreamsSpec.pre6 enc Try.prog Try.f3 Rows.modeStreamsRow.domain false) (Rows.modeStreamsSpec.post enc Try.prog Try.f3 false true false false) := by
  refine returnsInHanded_of_change_sized (C := Try.checked) Try.own started (by kernel_rfl) Try.func3
    (ChangeSpec.witness6 (enc := enc) (C := Try.checked) false ⟨#[], #[.slice none 0 0, .agg #[.int .u8 0, .int .u8 0, .int .u8 0, .int .u8 0, .int .u8 0, .int .u8 0, .int .u8 0, .int .u8 0, .int .u8 0, .int .u8 0, .int .u8 0, .int .u8 0, .int .u8 0, .int .u8 0, .int .u8 0, .int .u8 0], .int .u64 0, .slice none 0 0], []⟩ 8 (by kernel_rfl) (by kernel_rfl) (by kernel_rfl) (by kernel_rfl)) ?_
  intro W base args ds gs before hval0 hW hcnd hsz0 _
  have hsz : (DataW.weightsEach Try.prog (Try.f3.params.toList ++ Rows.modeStreamsSpec.plain.varTypes Try.prog) (ds ++ gs)).all (· ≤ reachBytes) = true := hsz0
  have hval : ∀ (j : Nat) t v, Try.f3.params[j]? = some t → args[j]? = some v → Value.okWide Try.prog W .any base t v := hval0
  have hW' := hW
  obtain ⟨p, q, hA0, hV, rfl, hfz, hnd⟩ := hW
  have hA : DataW.TrodAll enc Try.prog W 0 (fun _ => true) true Try.f3.params.toList args.toList ds p := hA0
  rw [Try.params3] at hA hval hsz
  obtain ⟨v0, v1, v2, v3, d0, d1, d2, d3, p0, p1, p2, p3, rfl, rfl, rfl, h0, h1, h2, h3⟩ := trodAll_four hA
  obtain ⟨rfl, rfl⟩ := trodVars_none hV
  simp only [List.append_nil] at hW'
  have hlt : ∀ x ∈ p0 ++ p1 ++ p2 ++ p3, x.block < W.heap.size := fun x hx => by simpa using hW'.lt x (by simpa using hx)
  have hk0 : ∀ W' : World, Below W.heap.size W W' → DataW.Trod enc Try.prog W' 0 (fun b => decide (b < W.heap.size)) true 22 v0 d0 p0 := fun W' hn => Below.trod Try.laidOut (by kernel_rfl) (of_decide_eq_true (by kernel_rfl)) h0 hn (fun x hx => hlt x (by simp [hx]))
  obtain ⟨a0, n0, c0, rfl⟩ := okWide_slice Try.uBytes (hval 0 22 v0 rfl rfl)
  obtain ⟨fuel0, hf0⟩ := h0
  obtain ⟨l0, low0, hI0, len0⟩ := by_of_trod (u := .slice a0 n0 c0) (by simpa [Value.cells] using hf0)
  have z0 : l0.length ≤ 140737488351232 := by
    obtain ⟨a', c', e, _⟩ := hI0
    have en : n0 = l0.length := by cases e; rfl
    rw [← en]
    rcases len_of_trod (by simpa [Value.cells] using hf0) with ⟨_, h⟩ | ⟨es, sp, hd, h⟩
    · omega
    · simp only at hd
      subst hd
      have := sized_slice hsz (j := 0) (t := 22) (e := 5) rfl rfl Try.uBytes
      rw [Try.bytesU8] at this
      simp only [reachBytes] at this
      omega
  obtain ⟨xs1, l1, rfl, rfl, rfl, w1⟩ := open_arr bu_a16 Try.uU8 Try.cellsU8 cells_a16 (hval 1 23 v1 rfl rfl) h1
  obtain ⟨x2, rfl, rfl, rfl, w2⟩ := open_int Try.uU64 (hval 2 24 v2 rfl rfl) h2
  have hk3 : ∀ W' : World, Below W.heap.size W W' → DataW.Trod enc Try.prog W' 0 (fun b => decide (b < W.heap.size)) true 22 v3 d3 p3 := fun W' hn => Below.trod Try.laidOut (by kernel_rfl) (of_decide_eq_true (by kernel_rfl)) h3 hn (fun x hx => hlt x (by simp [hx]))
  obtain ⟨a3, n3, c3, rfl⟩ := okWide_slice Try.uBytes (hval 3 22 v3 rfl rfl)
  obtain ⟨fuel3, hf3⟩ := h3
  obtain ⟨l3, low3, hI3, len3⟩ := by_of_trod (u := .slice a3 n3 c3) (by simpa [Value.cells] using hf3)
  have z3 : l3.length ≤ 140737488351232 := by
    obtain ⟨a', c', e, _⟩ := hI3
    have en : n3 = l3.length := by cases e; rfl
    rw [← en]
    rcases len_of_trod (by simpa [Value.cells] using hf3) with ⟨_, h⟩ | ⟨es, sp, hd, h⟩
    · omega
    · simp only at hd
      subst hd
      have := sized_slice hsz (j := 3) (t := 22) (e := 5) rfl rfl Try.uBytes
      rw [Try.bytesU8] at this
      simp only [reachBytes] at this
      omega
  refine (modeStreams_law _ l0 low0 z0 xs1 l1 (fun z hz => byte_of_wf (w1 z hz)) x2 (word_of_wf w2) _ l3 low3 z3 W hI0 hI3).mono fun e W' ⟨he, hg⟩ => ?_
  subst he
  exact ⟨_, rfl, _, _, _, [], _, [], hW', trodAll_mk1 (shut_bool Try.underlying4 _), trodAll_mk4 (hk0 _ hg) (shut_arr bu_a16 Try.uU8 Try.cellsU8 cells_a16 l1 w1) (shut_int Try.uU64 w2) (hk3 _ hg), rfl, hg.frame _, fun h => by cases h⟩

theorem modeStreams_holds : Rows.ModeStreamsSaid :=
  OpenClaim.holds_of_wide 3 Try.f3 rfl rfl rfl rfl rfl rfl rfl ⟨rfl, rfl, rfl, rfl, rfl⟩ rfl rfl rfl rfl rfl (by kernel_rfl) Try.func3 (by kernel_rfl)
    (of_decide_eq_true (by kernel_rfl)) (by unfold Func.isWrapper; first | (rw [if_pos (by decide +kernel)]; kernel_rfl) | (rw [if_neg (by decide +kernel)]; exact ⟨rfl, rfl⟩))
    (fun os started H enc _ => modeStreams_lifted os started H enc)
#print axioms modeStreams_holds
end Go.Proofs.Ytmfbdacalenfdaa
