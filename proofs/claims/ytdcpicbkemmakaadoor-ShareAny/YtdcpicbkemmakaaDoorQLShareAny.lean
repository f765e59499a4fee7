/- ShareAny returns true for all that it is given. -/
import Derived.Test.YtdcpicbkemmakaaDoorQShNsToShPi
import Derived.Test.YtdcpicbkemmakaaDoorQShLgToShSm
import Derived.Test.YtdcpicbkemmakaaDoorQShIxToShAy
import Derived.Test.YtdcpicbkemmakaaDoorQGArrToShD
import Derived.Test.YtdcpicbkemmakaaDoorQArrToHOpen
import Derived.Test.YtdcpicbkemmakaaDoorQHLaidToHRBlock
namespace Go.Proofs.YtdcpicbkemmakaaDoor
open Go.RowKit
open Go.ChangeShapes Go.WideShapes Go.ChangeAt
set_option linter.unusedSimpArgs false
theorem uInt_ : Tryd.prog.underlying 3 = some (.int .i64) := by kernel_rfl
theorem shareAny_law (x : Nm) (ox : x.ok) (k : Int) (hk : -9223372036854775808 ≤ k ∧ k ≤ 9223372036854775807) (n : Int) (hn : -9223372036854775808 ≤ n ∧ n ≤ 9223372036854775807) (v : Value) (p : List Nat) (lp : lowB p) (zp : p.length ≤ 140737488351232) (u : Value) (q : List Int) (_ : lowZ q) (zq : q.length ≤ 140737488351232) (w : World) (hv : By w v p) (hu : Iy w u q) (hK : KTab w) : Calls Tryd.prog 4 #[N x, .int .i64 k, .int .i64 n, v, u] w fun e w' => e = .returned (.bool true) ∧ Below w.heap.size w w' :=
  shareAny_of splitC atC x ox k n hk hn p lp (Nat.le_trans zp (by decide)) q zq v u w hv hu hK
set_option maxRecDepth 100000 in
theorem shareAny_met (os : Os) : laidMet Tryd.prog Rows.shareAnyRow.laid ((World.doorLaid Tryd.prog 14 os).forCall (fun _ _ => 0) ⟨#[], #[.agg #[.int .u64 0, .int .u64 0, .int .u64 0, .int .u64 0], .int .i64 0, .int .i64 0, .slice none 0 0, .slice none 0 0], []⟩).memory := laidMet_of_run' 8 (by kernel_rfl) (by kernel_rfl)
set_option maxRecDepth 100000 in
theorem shareAny_reads (os : Os) {H : Type} (enc : TypeId × Value → H) : ∃ places, DataW.whole enc Tryd.prog ((World.doorLaid Tryd.prog 14 os).forCall (fun _ _ => 0) ⟨#[], #[.agg #[.int .u64 0, .int .u64 0, .int .u64 0, .int .u64 0], .int .i64 0, .int .i64 0, .slice none 0 0, .slice none 0 0], []⟩).memory Tryd.f4.params.toList Rows.shareAnySpec.vars false #[.agg #[.int .u64 0, .int .u64 0, .int .u64 0, .int .u64 0], .int .i64 0, .int .i64 0, .slice none 0 0, .slice none 0 0].toList 8 = some ([.agg [.lit (.int .u64 0), .lit (.int .u64 0), .lit (.int .u64 0), .lit (.int .u64 0)], .lit (.int .i64 0), .lit (.int .i64 0), .nil, .nil], [], places) := ⟨[], by kernel_rfl⟩
set_option maxRecDepth 100000 in
theorem shareAny_lifted (os : Os) (started : os.Started) (H : Type) (enc : TypeId × Value → H) (F : Stop.Interp) :
    ReturnsInHanded {} Tryd.checked os 4 .any ((OpenSpec.ofChange Rows.shareAnySpec).preRow enc Tryd.prog Tryd.f4 Rows.shareAnyRow.domain false Rows.shareAnyRow.laid) (((OpenSpec.ofChange Rows.shareAnySpec).at F).post enc Tryd.prog Tryd.f4 false true false false) := by
  obtain ⟨places, hx⟩ := shareAny_reads os enc
  refine returnsInHanded_of_row (C := Tryd.checked) (s := (OpenSpec.ofChange Rows.shareAnySpec)) Tryd.own started (by kernel_rfl) Tryd.func4
    (witness_row_at (enc := enc) (C := Tryd.checked) false (World.doorLaid Tryd.prog 14 os) #[.agg #[.int .u64 0, .int .u64 0, .int .u64 0, .int .u64 0], .int .i64 0, .int .i64 0, .slice none 0 0, .slice none 0 0] rfl (by kernel_rfl) (by kernel_rfl) (by kernel_rfl)
      (OpenSpec.preRow_of_cond 8 hx (by kernel_rfl) (fun k hk => by cases hk) (by kernel_rfl) (shareAny_met os))) ?_
  intro W base args ds gs before hval0 hW _ hcond hsz0 hL _ _
  have hval : ∀ (j : Nat) t v, Tryd.f4.params[j]? = some t → args[j]? = some v → Value.okWide Tryd.prog W .any base t v := hval0
  have hsz : (DataW.weightsEach Tryd.prog (Tryd.f4.params.toList ++ Rows.shareAnySpec.plain.varTypes Tryd.prog) (ds ++ gs)).all (· ≤ reachBytes) = true := hsz0
  have hW' := hW
  obtain ⟨p, q, hA0, hV, rfl, hfz, hnd⟩ := hW
  have hA : DataW.TrodAll enc Tryd.prog W 0 (fun _ => true) true Tryd.f4.params.toList args.toList ds p := hA0
  rw [Tryd.params4] at hA hval hsz
  obtain ⟨v0, vs0, d0, ds0, p0, q0, hargs, rfl, rfl, h0, r0⟩ := trodAll_cons hA
  obtain ⟨v1, vs1, d1, ds1, p1, q1, rfl, rfl, rfl, h1, r1⟩ := trodAll_cons r0
  obtain ⟨v2, vs2, d2, ds2, p2, q2, rfl, rfl, rfl, h2, r2⟩ := trodAll_cons r1
  obtain ⟨v3, vs3, d3, ds3, p3, q3, rfl, rfl, rfl, h3, r3⟩ := trodAll_cons r2
  obtain ⟨v4, vs4, d4, ds4, p4, q4, rfl, rfl, rfl, h4, r4⟩ := trodAll_cons r3
  obtain ⟨rfl, rfl, rfl⟩ := trodAll_nil r4
  have eargs : args = #[v0, v1, v2, v3, v4] := by
    obtain ⟨l⟩ := args
    simp at hargs
    simp [hargs]
  subst eargs
  obtain ⟨rfl, rfl⟩ := trodVars_none hV
  simp only [List.append_nil] at hW'
  have hlt : ∀ x ∈ p0 ++ p1 ++ p2 ++ p3 ++ p4, x.block < W.heap.size := fun x hx => by simpa using hW'.lt x (by simpa using hx)
  obtain ⟨xs0, l0, rfl, rfl, rfl, w0⟩ := open_arr Tryd.underlying24 Tryd.underlying22 Tryd.cellsU64 Tryd.cellsNum (hval 0 24 v0 rfl rfl) h0
  obtain ⟨na0, nb0, nc0, nd0, rfl⟩ := list4 xs0 l0
  obtain ⟨x1, rfl, rfl, rfl, w1⟩ := open_int uInt_ (hval 1 3 v1 rfl rfl) h1
  obtain ⟨x2, rfl, rfl, rfl, w2⟩ := open_int uInt_ (hval 2 3 v2 rfl rfl) h2
  have hk3 : ∀ W' : World, Below W.heap.size W W' → DataW.Trod enc Tryd.prog W' 0 (fun b => decide (b < W.heap.size)) true 25 v3 d3 p3 := fun W' hn => Below.trod Tryd.laidOut (by kernel_rfl) (of_decide_eq_true (by kernel_rfl)) h3 hn (fun x hx => hlt x (by simp [hx]))
  obtain ⟨a3, n3, c3, rfl⟩ := okWide_slice Tryd.uBytes (hval 3 25 v3 rfl rfl)
  obtain ⟨fuel3, hf3⟩ := h3
  obtain ⟨l3, low3, hI3, len3⟩ := by_of_trod (u := .slice a3 n3 c3) (by simpa [Value.cells] using hf3)
  have z3 : l3.length ≤ 140737488351232 := by
    obtain ⟨a', c', e, _⟩ := hI3
    have en : n3 = l3.length := by cases e; rfl
    rw [← en]
    rcases len_of_trod (by simpa [Value.cells] using hf3) with ⟨_, h⟩ | ⟨es, sp, hd, h⟩
    · omega
    · simp only at hd
      subst hd
      have := sized_slice hsz (j := 3) (t := 25) (e := 5) rfl rfl Tryd.uBytes
      rw [Tryd.bytesU8] at this
      simp only [reachBytes] at this
      omega
  have hk4 : ∀ W' : World, Below W.heap.size W W' → DataW.Trod enc Tryd.prog W' 0 (fun b => decide (b < W.heap.size)) true 33 v4 d4 p4 := fun W' hn => Below.trod Tryd.laidOut (by kernel_rfl) (of_decide_eq_true (by kernel_rfl)) h4 hn (fun x hx => hlt x (by simp [hx]))
  obtain ⟨a4, n4, c4, rfl⟩ := okWide_slice uInts (hval 4 33 v4 rfl rfl)
  obtain ⟨fuel4, hf4⟩ := h4
  obtain ⟨l4, low4, hI4⟩ := is_of_trod (u := .slice a4 n4 c4) (by simpa [Value.cells] using hf4)
  have z4 : l4.length ≤ 140737488351232 := by
    obtain ⟨a', c', e, _⟩ := hI4
    have en : n4 = l4.length := by cases e; rfl
    rw [← en]
    rcases ilen_of_trod (by simpa [Value.cells] using hf4) with ⟨_, h⟩ | ⟨es, sp, hd, h⟩
    · omega
    · simp only at hd
      subst hd
      have := sized_slice hsz (j := 4) (t := 33) (e := 3) rfl rfl uInts
      rw [show Tryd.prog.bytesOf 3 = 8 by kernel_rfl] at this
      simp only [reachBytes] at this
      omega
  refine (shareAny_law ⟨na0, nb0, nc0, nd0⟩ ⟨word_of_wf (w0 _ (by simp)), word_of_wf (w0 _ (by simp)), word_of_wf (w0 _ (by simp)), word_of_wf (w0 _ (by simp))⟩ x1 (int_of_wf w1) x2 (int_of_wf w2) _ l3 low3 z3 _ l4 low4 z4 W hI3 hI4 (ktab_one hL)).mono fun e W' ⟨he, hg⟩ => ?_
  subst he
  exact ⟨_, rfl, _, _, _, [], _, [], hW', trodAll_mk1 (shut_bool Tryd.underlying4 _), trodAll_cons_mk (shut_arr Tryd.underlying24 Tryd.underlying22 Tryd.cellsU64 Tryd.cellsNum l0 w0) (trodAll_cons_mk (shut_int uInt_ w1) (trodAll_cons_mk (shut_int uInt_ w2) (trodAll_cons_mk (hk3 _ hg) (trodAll_cons_mk (hk4 _ hg) (trodAll_mk0))))), rfl, hg.frame _, fun h => by cases h⟩

theorem shareAny_holds : Rows.ShareAnySaid :=
  OpenClaim.holds_of_cond 4 Tryd.f4 rfl rfl rfl rfl rfl rfl rfl ⟨rfl, rfl, rfl, rfl, rfl⟩ rfl rfl rfl rfl rfl (by kernel_rfl) Tryd.func4 (by kernel_rfl)
    (of_decide_eq_true (by kernel_rfl)) (by unfold Func.isWrapper; first | (rw [if_pos (by decide +kernel)]; kernel_rfl) | (rw [if_neg (by decide +kernel)]; exact ⟨rfl, rfl⟩))
    (fun os started H enc _ F => by rw [OpenClaim.pre_eq_preRow]; exact shareAny_lifted os started H enc F)

theorem shareAny_card : Rows.ShareAnyCardSaid :=
  Claim7.holds_tied_plain_at .later [] _ _ _ _ shareAny_holds (fun _ h => by cases h) (by kernel_rfl) (fun _ h => by cases h) shareAny_row_tie rfl ⟨rfl, rfl⟩ (by kernel_rfl) rfl
    (fun f fn hf hfn => by
      obtain rfl : f = 4 := Option.some.inj ((show Tryd.prog.funcNamed "sealring/sealringkeep.ShareAny" = some 4 by kernel_rfl).symm.trans hf) |>.symm
      obtain rfl : fn = Tryd.f4 := (Option.some.inj (Tryd.func4.symm.trans hfn)).symm
      exact ⟨by kernel_rfl, fun j t ht => by
        rw [Tryd.params4] at ht
        have hm : t ∈ [24, 3, 3, 25, 33] := by simpa using Array.mem_of_getElem? ht
        have hall : ([24, 3, 3, 25, 33].all fun u => !Tryd.prog.wantsStandIn u) = true := by kernel_rfl
        exact (show Tryd.prog.wantsStandIn t = false by simpa using List.all_eq_true.1 hall t hm)⟩)
    (by kernel_rfl)
#print axioms shareAny_card
end Go.Proofs.YtdcpicbkemmakaaDoor
