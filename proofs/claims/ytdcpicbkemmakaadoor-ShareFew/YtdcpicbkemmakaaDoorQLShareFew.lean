/- ShareFew returns true for all that it is given. -/
import Derived.Test.YtdcpicbkemmakaaDoorQShNsToShPi
import Derived.Test.YtdcpicbkemmakaaDoorQShLgToShSm
import Derived.Test.YtdcpicbkemmakaaDoorQShFwL
import Derived.Test.YtdcpicbkemmakaaDoorQLenToDBelM
import Derived.Test.YtdcpicbkemmakaaDoorQGArrToShD
import Derived.Test.YtdcpicbkemmakaaDoorQArrToHOpen
import Derived.Test.YtdcpicbkemmakaaDoorQHLaidToHRBlock
namespace Go.Proofs.YtdcpicbkemmakaaDoor
open Go.RowKit
open Go.ChangeShapes Go.WideShapes Go.ChangeAt
set_option linter.unusedSimpArgs false
theorem uInt_ : Tryd.prog.underlying 3 = some (.int .i64) := by kernel_rfl
theorem cmp_told (x y : Nm) (ox : x.ok) (oy : y.ok) : ∃ q : Int, (q ≥ 0 ↔ y.nat ≤ x.nat) ∧ ∀ w, Calls Tryd.prog 13 #[N x, N y] w fun e w' => e = .returned (.int .i64 q) ∧ Below w.heap.size w w' := by
  refine ⟨cmpN x.nat y.nat, ?_, fun w => ?_⟩
  · unfold cmpN
    split
    · exact ⟨fun h => absurd h (by decide), fun h => by omega⟩
    · split
      · exact ⟨fun _ => by omega, fun _ => by decide⟩
      · exact ⟨fun _ => by omega, fun _ => by decide⟩
  · have := cmp_num x.nat y.nat y oy rfl (Nm.nat_lt ox) w
    rwa [show Nm.of ((x.nat : Nat) : Int) = x from (Nm.eq_nm ox rfl).symm] at this
theorem shareFew_law (l : List Shr) (ls : ∀ s ∈ l, s.ok) (x : Int) (hx : -9223372036854775808 ≤ x ∧ x ≤ 9223372036854775807) (s : Nm) (os : s.ok) (w : World) {v : Value} (hv : Shs w v l) (hK : KTab w) : Calls Tryd.prog 5 #[v, .int .i64 x, N s] w fun e w' => e = .returned (.bool true) ∧ Below w.heap.size w w' :=
  shareFew_of splitC atC sLC cmp_told sAddC sNegC sMulC sInvC l ls x hx s os v w hv hK
set_option maxRecDepth 100000 in
theorem shareFew_met (os : Os) : laidMet Tryd.prog Rows.shareFewRow.laid ((World.doorLaid Tryd.prog 14 os).forCall (fun _ _ => 0) ⟨#[], #[.slice none 0 0, .int .i64 0, .agg #[.int .u64 0, .int .u64 0, .int .u64 0, .int .u64 0]], []⟩).memory := laidMet_of_run' 8 (by kernel_rfl) (by kernel_rfl)
set_option maxRecDepth 100000 in
theorem shareFew_reads (os : Os) {H : Type} (enc : TypeId × Value → H) : ∃ places, DataW.whole enc Tryd.prog ((World.doorLaid Tryd.prog 14 os).forCall (fun _ _ => 0) ⟨#[], #[.slice none 0 0, .int .i64 0, .agg #[.int .u64 0, .int .u64 0, .int .u64 0, .int .u64 0]], []⟩).memory Tryd.f5.params.toList Rows.shareFewSpec.vars false #[.slice none 0 0, .int .i64 0, .agg #[.int .u64 0, .int .u64 0, .int .u64 0, .int .u64 0]].toList 8 = some ([.nil, .lit (.int .i64 0), .agg [.lit (.int .u64 0), .lit (.int .u64 0), .lit (.int .u64 0), .lit (.int .u64 0)]], [], places) := ⟨[], by kernel_rfl⟩
set_option maxRecDepth 100000 in
theorem shareFew_lifted (os : Os) (started : os.Started) (H : Type) (enc : TypeId × Value → H) (F : Stop.Interp) :
    ReturnsInHanded {} Tryd.checked os 5 .any ((OpenSpec.ofChange Rows.shareFewSpec).preRow enc Tryd.prog Tryd.f5 Rows.shareFewRow.domain false Rows.shareFewRow.laid) (((OpenSpec.ofChange Rows.shareFewSpec).at F).post enc Tryd.prog Tryd.f5 false true false false) := by
  obtain ⟨places, hx⟩ := shareFew_reads os enc
  refine returnsInHanded_of_row (C := Tryd.checked) (s := (OpenSpec.ofChange Rows.shareFewSpec)) Tryd.own started (by kernel_rfl) Tryd.func5
    (witness_row_at (enc := enc) (C := Tryd.checked) false (World.doorLaid Tryd.prog 14 os) #[.slice none 0 0, .int .i64 0, .agg #[.int .u64 0, .int .u64 0, .int .u64 0, .int .u64 0]] rfl (by kernel_rfl) (by kernel_rfl) (by kernel_rfl)
      (OpenSpec.preRow_of_cond 8 hx (by kernel_rfl) (fun k hk => by cases hk) (by kernel_rfl) (shareFew_met os))) ?_
  intro W base args ds gs before hval0 hW _ hcond hsz0 hL _ _
  have hval : ∀ (j : Nat) t v, Tryd.f5.params[j]? = some t → args[j]? = some v → Value.okWide Tryd.prog W .any base t v := hval0
  have hsz : (DataW.weightsEach Tryd.prog (Tryd.f5.params.toList ++ Rows.shareFewSpec.plain.varTypes Tryd.prog) (ds ++ gs)).all (· ≤ reachBytes) = true := hsz0
  have hW' := hW
  obtain ⟨p, q, hA0, hV, rfl, hfz, hnd⟩ := hW
  have hA : DataW.TrodAll enc Tryd.prog W 0 (fun _ => true) true Tryd.f5.params.toList args.toList ds p := hA0
  rw [Tryd.params5] at hA hval hsz
  obtain ⟨v0, v1, v2, d0, d1, d2, p0, p1, p2, rfl, rfl, rfl, h0, h1, h2⟩ := trodAll_three hA
  obtain ⟨rfl, rfl⟩ := trodVars_none hV
  simp only [List.append_nil] at hW'
  have hlt : ∀ x ∈ p0 ++ p1 ++ p2, x.block < W.heap.size := fun x hx => by simpa using hW'.lt x (by simpa using hx)
  have hk0 : ∀ W' : World, Below W.heap.size W W' → DataW.Trod enc Tryd.prog W' 0 (fun b => decide (b < W.heap.size)) true 26 v0 d0 p0 := fun W' hn => Below.trod Tryd.laidOut (by kernel_rfl) (of_decide_eq_true (by kernel_rfl)) h0 hn (fun x hx => hlt x (by simp [hx]))
  obtain ⟨a0, n0, c0, rfl⟩ := okWide_slice uShs (hval 0 26 v0 rfl rfl)
  obtain ⟨fuel0, hf0⟩ := h0
  obtain ⟨l0, low0, hI0⟩ := shs_open (u := .slice a0 n0 c0) (by simpa [Value.cells] using hf0)
  obtain ⟨x1, rfl, rfl, rfl, w1⟩ := open_int uInt_ (hval 1 3 v1 rfl rfl) h1
  obtain ⟨xs2, l2, rfl, rfl, rfl, w2⟩ := open_arr Tryd.underlying24 Tryd.underlying22 Tryd.cellsU64 Tryd.cellsNum (hval 2 24 v2 rfl rfl) h2
  obtain ⟨na2, nb2, nc2, nd2, rfl⟩ := list4 xs2 l2
  refine (shareFew_law l0 low0 x1 (int_of_wf w1) ⟨na2, nb2, nc2, nd2⟩ ⟨word_of_wf (w2 _ (by simp)), word_of_wf (w2 _ (by simp)), word_of_wf (w2 _ (by simp)), word_of_wf (w2 _ (by simp))⟩ W hI0 (ktab_one hL)).mono fun e W' ⟨he, hg⟩ => ?_
  subst he
  exact ⟨_, rfl, _, _, _, [], _, [], hW', trodAll_mk1 (shut_bool Tryd.underlying4 _), trodAll_mk3 (hk0 _ hg) (shut_int uInt_ w1) (shut_arr Tryd.underlying24 Tryd.underlying22 Tryd.cellsU64 Tryd.cellsNum l2 w2), rfl, hg.frame _, fun h => by cases h⟩

theorem shareFew_holds : Rows.ShareFewSaid :=
  OpenClaim.holds_of_cond 5 Tryd.f5 rfl rfl rfl rfl rfl rfl rfl ⟨rfl, rfl, rfl, rfl, rfl⟩ rfl rfl rfl rfl rfl (by kernel_rfl) Tryd.func5 (by kernel_rfl)
    (of_decide_eq_true (by kernel_rfl)) (by unfold Func.isWrapper; first | (rw [if_pos (by decide +kernel)]; kernel_rfl) | (rw [if_neg (by decide +kernel)]; exact ⟨rfl, rfl⟩))
    (fun os started H enc _ F => by rw [OpenClaim.pre_eq_preRow]; exact shareFew_lifted os started H enc F)

theorem shareFew_card : Rows.ShareFewCardSaid :=
  Claim7.holds_tied_plain_at .later [] _ _ _ _ shareFew_holds (fun _ h => by cases h) (by kernel_rfl) (fun _ h => by cases h) shareFew_row_tie rfl ⟨rfl, rfl⟩ (by kernel_rfl) rfl
    (fun f fn hf hfn => by
      obtain rfl : f = 5 := Option.some.inj ((show Tryd.prog.funcNamed "sealring/sealringkeep.ShareFew" = some 5 by kernel_rfl).symm.trans hf) |>.symm
      obtain rfl : fn = Tryd.f5 := (Option.some.inj (Tryd.func5.symm.trans hfn)).symm
      exact ⟨by kernel_rfl, fun j t ht => by
        rw [Tryd.params5] at ht
        have hm : t ∈ [26, 3, 24] := by simpa using Array.mem_of_getElem? ht
        have hall : ([26, 3, 24].all fun u => !Tryd.prog.wantsStandIn u) = true := by kernel_rfl
        exact (show Tryd.prog.wantsStandIn t = false by simpa using List.all_eq_true.1 hall t hm)⟩)
    (by kernel_rfl)
#print axioms shareFew_card
end Go.Proofs.YtdcpicbkemmakaaDoor
