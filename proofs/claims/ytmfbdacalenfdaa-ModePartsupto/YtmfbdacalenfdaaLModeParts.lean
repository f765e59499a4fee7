/- ModeParts returns true for all that it is given, of at most 1048576 values in all. -/
import Derived.Test.YtmfbdacalenfdaaGrp15
import Derived.Test.YtmfbdacalenfdaaModeIs
import Derived.Test.YtmfbdacalenfdaaMdParts
import Derived.JoinedCond
namespace Go.Proofs.Ytmfbdacalenfdaa
open Go.RowKit
open Go.ChangeShapes Go.WideShapes Go.ChangeAt
set_option linter.unusedSimpArgs false
theorem Try.uU64 : Try.prog.underlying 24 = some (.int .u64) := by kernel_rfl
theorem bulkP_one {H : Type} (d : DataW H) : 1 ≤ Rows.uptoBulk d := by
  cases d with
  | lit l => cases l <;> simp [Rows.uptoBulk]
  | nil => simp [Rows.uptoBulk]
  | ptr d => simp [Rows.uptoBulk]
  | slice elems spare => simp [Rows.uptoBulk]
  | agg parts => simp [Rows.uptoBulk]
  | iface t d => simp [Rows.uptoBulk]
  | map entries => simp [Rows.uptoBulk]
  | held h => simp [Rows.uptoBulk]
theorem bulkP_all {H : Type} : ∀ l : List (DataW H), l.length ≤ Rows.uptoBulkAll l
  | [] => by simp [Rows.uptoBulkAll]
  | x :: r => by
    have h1 := bulkP_one x
    have h2 := bulkP_all r
    simp only [Rows.uptoBulkAll, List.length_cons]
    omega
theorem bulkP_le {H : Type} (es sp : List (DataW H)) : es.length ≤ Rows.uptoBulk (.slice es sp) := by
  have h1 := bulkP_all es
  simp only [Rows.uptoBulk]
  omega
theorem modeParts_law (v0 : Value) (l0 : List Nat) (o0 : lowB l0) (_ : l0.length ≤ 1048576) (xs : List Int) (lx : xs.length = 16) (hx : ∀ z ∈ xs, 0 ≤ z ∧ z < 256) (x2 : Int) (w2 : 0 ≤ x2 ∧ x2 < 18446744073709551616) (v3 : Value) (l3 : List Nat) (o3 : lowB l3) (z3 : l3.length ≤ 1048576) (v4 : Value) (l4 : List Int) (o4 : lowZ l4) (z4 : l4.length ≤ 1048576) (w : World) (h0 : By w v0 l0) (h3 : By w v3 l3) (h4 : Iy w v4 l4) : Calls Try.prog 6 #[v0, .agg (xs.map (Value.int .u8)).toArray, .int .u64 x2, v3, v4] w fun e w' => e = .returned (.bool true) ∧ Below w.heap.size w w' := by
  obtain ⟨b, e1, l1, b1⟩ := ans_of xs hx
  rw [e1]
  obtain ⟨q, rfl⟩ := an_of w2.1
  exact modeParts_of aesIs streamIs modeIs v0 l0 o0 b ⟨l1.trans lx, b1⟩ q (by omega) v3 l3 o3 z3 v4 l4 o4 z4 w trivial h0 h3 h4
set_option maxRecDepth 100000 in
theorem modeParts_lifted (os : Os) (started : os.Started) (H : Type) (enc : TypeId × Value → H) (F : Stop.Interp) :
    ReturnsInHanded {} Try.checked os 6 .any ((Rows.OpenSpec.upto Rows.modePartsSpec).pre6 enc Try.prog Try.f6 Rows.modePartsUptoRow.domain false) (((Rows.OpenSpec.upto Rows.modePartsSpec).at F).post enc Try.prog Try.f6 false true false false) := by
  refine returnsInHanded_of_cond (C := Try.checked) (s := (Rows.OpenSpec.upto Rows.modePartsSpec)) (k := Rows.uptoSmall) rfl Try.own started (by kernel_rfl) Try.func6
    (OpenSpec.witness (enc := enc) (C := Try.checked) (s := (Rows.OpenSpec.upto Rows.modePartsSpec)) (k := Rows.uptoSmall) rfl false ⟨#[], #[.slice none 0 0, .agg #[.int .u8 0, .int .u8 0, .int .u8 0, .int .u8 0, .int .u8 0, .int .u8 0, .int .u8 0, .int .u8 0, .int .u8 0, .int .u8 0, .int .u8 0, .int .u8 0, .int .u8 0, .int .u8 0, .int .u8 0, .int .u8 0], .int .u64 0, .slice none 0 0, .slice none 0 0], []⟩ 8 (by kernel_rfl) (by kernel_rfl) (by kernel_rfl)
      (x := ([.nil, .agg [.lit (.int .u8 0), .lit (.int .u8 0), .lit (.int .u8 0), .lit (.int .u8 0), .lit (.int .u8 0), .lit (.int .u8 0), .lit (.int .u8 0), .lit (.int .u8 0), .lit (.int .u8 0), .lit (.int .u8 0), .lit (.int .u8 0), .lit (.int .u8 0), .lit (.int .u8 0), .lit (.int .u8 0), .lit (.int .u8 0), .lit (.int .u8 0)], .lit (.int .u64 0), .nil, .nil], [], [])) (by kernel_rfl) rfl (by kernel_rfl)) ?_
  intro W base args ds gs before hval0 hW _ hk _
  have hval : ∀ (j : Nat) t v, Try.f6.params[j]? = some t → args[j]? = some v → Value.okWide Try.prog W .any base t v := hval0
  have hW' := hW
  obtain ⟨p, q, hA0, hV, rfl, hfz, hnd⟩ := hW
  have hA : DataW.TrodAll enc Try.prog W 0 (fun _ => true) true Try.f6.params.toList args.toList ds p := hA0
  rw [Try.params6] at hA hval
  obtain ⟨v0, vs0, d0, ds0, p0, q0, hargs, rfl, rfl, h0, r0⟩ := trodAll_cons hA
  obtain ⟨v1, vs1, d1, ds1, p1, q1, rfl, rfl, rfl, h1, r1⟩ := trodAll_cons r0
  obtain ⟨v2, vs2, d2, ds2, p2, q2, rfl, rfl, rfl, h2, r2⟩ := trodAll_cons r1
  obtain ⟨v3, vs3, d3, ds3, p3, q3, rfl, rfl, rfl, h3, r3⟩ := trodAll_cons r2
  obtain ⟨v4, vs4, d4, ds4, p4, q4, rfl, rfl, rfl, h4, r4⟩ := trodAll_cons r3
  obtain ⟨rfl, rfl, rfl⟩ := trodAll_nil r4
  have eargs : args = #[v0, v1, v2, v3, v4] := by
    obtain ⟨l⟩ := args
    simp at hargs
    simp [hargs]
  subst eargs
  obtain ⟨rfl, rfl⟩ := trodVars_none hV
  have hbd := of_decide_eq_true hk
  simp only [Rows.uptoBulkAll, List.cons_append, List.nil_append] at hbd
  simp only [List.append_nil] at hW'
  have hlt : ∀ x ∈ p0 ++ p1 ++ p2 ++ p3 ++ p4, x.block < W.heap.size := fun x hx => by simpa using hW'.lt x (by simpa using hx)
  have hk0 : ∀ W' : World, Below W.heap.size W W' → DataW.Trod enc Try.prog W' 0 (fun b => decide (b < W.heap.size)) true 22 v0 d0 p0 := fun W' hn => Below.trod Try.laidOut (by kernel_rfl) (of_decide_eq_true (by kernel_rfl)) h0 hn (fun x hx => hlt x (by simp [hx]))
  obtain ⟨a0, n0, c0, rfl⟩ := okWide_slice Try.uBytes (hval 0 22 v0 rfl rfl)
  obtain ⟨fuel0, hf0⟩ := h0
  obtain ⟨l0, low0, hI0, len0⟩ := by_of_trod (u := .slice a0 n0 c0) (by simpa [Value.cells] using hf0)
  have z0 : l0.length ≤ 1048576 := by
    obtain ⟨a', c', e, _⟩ := hI0
    have en : n0 = l0.length := by cases e; rfl
    rw [← en]
    rcases len_of_trod (by simpa [Value.cells] using hf0) with ⟨_, h⟩ | ⟨es, sp, hd, h⟩
    · omega
    · simp only at hd
      subst hd
      have := bulkP_le es sp
      omega
  obtain ⟨xs1, l1, rfl, rfl, rfl, w1⟩ := open_arr bu_a16 Try.uU8 Try.cellsU8 cells_a16 (hval 1 23 v1 rfl rfl) h1
  obtain ⟨x2, rfl, rfl, rfl, w2⟩ := open_int Try.uU64 (hval 2 24 v2 rfl rfl) h2
  have hk3 : ∀ W' : World, Below W.heap.size W W' → DataW.Trod enc Try.prog W' 0 (fun b => decide (b < W.heap.size)) true 22 v3 d3 p3 := fun W' hn => Below.trod Try.laidOut (by kernel_rfl) (of_decide_eq_true (by kernel_rfl)) h3 hn (fun x hx => hlt x (by simp [hx]))
  obtain ⟨a3, n3, c3, rfl⟩ := okWide_slice Try.uBytes (hval 3 22 v3 rfl rfl)
  obtain ⟨fuel3, hf3⟩ := h3
  obtain ⟨l3, low3, hI3, len3⟩ := by_of_trod (u := .slice a3 n3 c3) (by simpa [Value.cells] using hf3)
  have z3 : l3.length ≤ 1048576 := by
    obtain ⟨a', c', e, _⟩ := hI3
    have en : n3 = l3.length := by cases e; rfl
    rw [← en]
    rcases len_of_trod (by simpa [Value.cells] using hf3) with ⟨_, h⟩ | ⟨es, sp, hd, h⟩
    · omega
    · simp only at hd
      subst hd
      have := bulkP_le es sp
      omega
  have hk4 : ∀ W' : World, Below W.heap.size W W' → DataW.Trod enc Try.prog W' 0 (fun b => decide (b < W.heap.size)) true 46 v4 d4 p4 := fun W' hn => Below.trod Try.laidOut (by kernel_rfl) (of_decide_eq_true (by kernel_rfl)) h4 hn (fun x hx => hlt x (by simp [hx]))
  obtain ⟨a4, n4, c4, rfl⟩ := okWide_slice uInts (hval 4 46 v4 rfl rfl)
  obtain ⟨fuel4, hf4⟩ := h4
  obtain ⟨l4, low4, hI4⟩ := is_of_trod (u := .slice a4 n4 c4) (by simpa [Value.cells] using hf4)
  have z4 : l4.length ≤ 1048576 := by
    obtain ⟨a', c', e, _⟩ := hI4
    have en : n4 = l4.length := by cases e; rfl
    rw [← en]
    rcases ilen_of_trod (by simpa [Value.cells] using hf4) with ⟨_, h⟩ | ⟨es, sp, hd, h⟩
    · omega
    · simp only at hd
      subst hd
      have := bulkP_le es sp
      omega
  refine (modeParts_law _ l0 low0 z0 xs1 l1 (fun z hz => byte_of_wf (w1 z hz)) x2 (word_of_wf w2) _ l3 low3 z3 _ l4 low4 z4 W hI0 hI3 hI4).mono fun e W' ⟨he, hg⟩ => ?_
  subst he
  exact ⟨_, rfl, _, _, _, [], _, [], hW', trodAll_mk1 (shut_bool Try.underlying4 _), trodAll_cons_mk (hk0 _ hg) (trodAll_cons_mk (shut_arr bu_a16 Try.uU8 Try.cellsU8 cells_a16 l1 w1) (trodAll_cons_mk (shut_int Try.uU64 w2) (trodAll_cons_mk (hk3 _ hg) (trodAll_cons_mk (hk4 _ hg) (trodAll_mk0))))), rfl, hg.frame _, fun h => by cases h⟩

theorem modeParts_holds : Rows.ModePartsUptoSaid :=
  OpenClaim.holds_of_cond 6 Try.f6 rfl rfl rfl rfl rfl rfl rfl ⟨rfl, rfl, rfl, rfl, rfl⟩ rfl rfl rfl rfl rfl (by kernel_rfl) Try.func6 (by kernel_rfl)
    (of_decide_eq_true (by kernel_rfl)) (by unfold Func.isWrapper; first | (rw [if_pos (by decide +kernel)]; kernel_rfl) | (rw [if_neg (by decide +kernel)]; exact ⟨rfl, rfl⟩))
    (fun os started H enc _ F => modeParts_lifted os started H enc F)
#print axioms modeParts_holds
end Go.Proofs.Ytmfbdacalenfdaa
