/- ScalarTells returns true for all that it is given. -/
import Derived.Test.YtjcnfffmciahiaaDoorScTel
import Derived.Test.YtjcnfffmciahiaaDoorOwn
import Derived.Test.YtjcnfffmciahiaaDoorGrp40
import Derived.Test.YtjcnfffmciahiaaDoorGrp40
import Derived.Test.YtjcnfffmciahiaaDoorHLaid
namespace Go.Proofs.YtjcnfffmciahiaaDoor
open Go.RowKit
open Go.ChangeShapes Go.WideShapes Go.ChangeAt
set_option linter.unusedSimpArgs false
theorem scalarTells_law (a : Nm) (oa : a.ok) (b : Nm) (ob : b.ok) (l h : Nm) (ol : l.ok) (oh : h.ok) (x : Int) (hx : 0 ≤ x ∧ x < 256) (v : Value) (bs : List Nat) (lo : lowB bs) (zb : bs.length ≤ 140737488351232) (w : World) (hv : By w v bs) (hK : KTab w) (hR : RTab w) : Calls Tryd.prog 3 #[N a, N b, Wv l h, .int .u8 x, v] w fun e w' => e = .returned (.bool true) ∧ Below w.heap.size w w' := by
  obtain ⟨n, rfl⟩ := Int.eq_ofNat_of_zero_le hx.1
  exact scalarTells_of a b l h oa ob ol oh n (by omega) v bs lo zb w hv hK hR
set_option maxRecDepth 100000 in
theorem scalarTells_met (os : Os) : laidMet Tryd.prog Rows.scalarTellsRow.laid ((World.doorLaid Tryd.prog 14 os).forCall (fun _ _ => 0) ⟨#[], #[.agg #[.int .u64 0, .int .u64 0, .int .u64 0, .int .u64 0], .agg #[.int .u64 0, .int .u64 0, .int .u64 0, .int .u64 0], .agg #[.int .u64 0, .int .u64 0, .int .u64 0, .int .u64 0, .int .u64 0, .int .u64 0, .int .u64 0, .int .u64 0], .int .u8 0, .slice none 0 0], []⟩).memory := laidMet_of_run' 8 (by kernel_rfl) (by kernel_rfl)
set_option maxRecDepth 100000 in
theorem scalarTells_reads (os : Os) {H : Type} (enc : TypeId × Value → H) : ∃ places, DataW.whole enc Tryd.prog ((World.doorLaid Tryd.prog 14 os).forCall (fun _ _ => 0) ⟨#[], #[.agg #[.int .u64 0, .int .u64 0, .int .u64 0, .int .u64 0], .agg #[.int .u64 0, .int .u64 0, .int .u64 0, .int .u64 0], .agg #[.int .u64 0, .int .u64 0, .int .u64 0, .int .u64 0, .int .u64 0, .int .u64 0, .int .u64 0, .int .u64 0], .int .u8 0, .slice none 0 0], []⟩).memory Tryd.f3.params.toList Rows.scalarTellsSpec.vars false #[.agg #[.int .u64 0, .int .u64 0, .int .u64 0, .int .u64 0], .agg #[.int .u64 0, .int .u64 0, .int .u64 0, .int .u64 0], .agg #[.int .u64 0, .int .u64 0, .int .u64 0, .int .u64 0, .int .u64 0, .int .u64 0, .int .u64 0, .int .u64 0], .int .u8 0, .slice none 0 0].toList 8 = some ([.agg [.lit (.int .u64 0), .lit (.int .u64 0), .lit (.int .u64 0), .lit (.int .u64 0)], .agg [.lit (.int .u64 0), .lit (.int .u64 0), .lit (.int .u64 0), .lit (.int .u64 0)], .agg [.lit (.int .u64 0), .lit (.int .u64 0), .lit (.int .u64 0), .lit (.int .u64 0), .lit (.int .u64 0), .lit (.int .u64 0), .lit (.int .u64 0), .lit (.int .u64 0)], .lit (.int .u8 0), .nil], [], places) := ⟨[], by kernel_rfl⟩
set_option maxRecDepth 100000 in
theorem scalarTells_lifted (os : Os) (started : os.Started) (H : Type) (enc : TypeId × Value → H) (F : Stop.Interp) :
    ReturnsInHanded {} Tryd.checked os 3 .any ((OpenSpec.ofChange Rows.scalarTellsSpec).preRow enc Tryd.prog Tryd.f3 Rows.scalarTellsRow.domain false Rows.scalarTellsRow.laid) (((OpenSpec.ofChange Rows.scalarTellsSpec).at F).post enc Tryd.prog Tryd.f3 false true false false) := by
  obtain ⟨places, hx⟩ := scalarTells_reads os enc
  refine returnsInHanded_of_row (C := Tryd.checked) (s := (OpenSpec.ofChange Rows.scalarTellsSpec)) Tryd.own started (by kernel_rfl) Tryd.func3
    (witness_row_at (enc := enc) (C := Tryd.checked) false (World.doorLaid Tryd.prog 14 os) #[.agg #[.int .u64 0, .int .u64 0, .int .u64 0, .int .u64 0], .agg #[.int .u64 0, .int .u64 0, .int .u64 0, .int .u64 0], .agg #[.int .u64 0, .int .u64 0, .int .u64 0, .int .u64 0, .int .u64 0, .int .u64 0, .int .u64 0, .int .u64 0], .int .u8 0, .slice none 0 0] rfl (by kernel_rfl) (by kernel_rfl) (by kernel_rfl)
      (OpenSpec.preRow_of_cond 8 hx (by kernel_rfl) (fun k hk => by cases hk) (by kernel_rfl) (scalarTells_met os))) ?_
  intro W base args ds gs before hval0 hW _ hcond hsz0 hL _ _
  have hval : ∀ (j : Nat) t v, Tryd.f3.params[j]? = some t → args[j]? = some v → Value.okWide Tryd.prog W .any base t v := hval0
  have hsz : (DataW.weightsEach Tryd.prog (Tryd.f3.params.toList ++ Rows.scalarTellsSpec.plain.varTypes Tryd.prog) (ds ++ gs)).all (· ≤ reachBytes) = true := hsz0
  have hW' := hW
  obtain ⟨p, q, hA0, hV, rfl, hfz, hnd⟩ := hW
  have hA : DataW.TrodAll enc Tryd.prog W 0 (fun _ => true) true Tryd.f3.params.toList args.toList ds p := hA0
  rw [Tryd.params3] at hA hval hsz
  obtain ⟨v0, vs0, d0, ds0, p0, q0, hargs, rfl, rfl, h0, r0⟩ := trodAll_cons hA
  obtain ⟨v1, vs1, d1, ds1, p1, q1, rfl, rfl, rfl, h1, r1⟩ := trodAll_cons r0
  obtain ⟨v2, vs2, d2, ds2, p2, q2, rfl, rfl, rfl, h2, r2⟩ := trodAll_cons r1
  obtain ⟨v3, vs3, d3, ds3, p3, q3, rfl, rfl, rfl, h3, r3⟩ := trodAll_cons r2
  obtain ⟨v4, vs4, d4, ds4, p4, q4, rfl, rfl, rfl, h4, r4⟩ := trodAll_cons r3
  obtain ⟨rfl, rfl, rfl⟩ := trodAll_nil r4
  have eargs : args = #[v0, v1, v2, v3, v4] := by
    obtain ⟨l⟩ := args
    simp at hargs
    simp [hargs]
  subst eargs
  obtain ⟨rfl, rfl⟩ := trodVars_none hV
  simp only [List.append_nil] at hW'
  have hlt : ∀ x ∈ p0 ++ p1 ++ p2 ++ p3 ++ p4, x.block < W.heap.size := fun x hx => by simpa using hW'.lt x (by simpa using hx)
  obtain ⟨xs0, l0, rfl, rfl, rfl, w0⟩ := open_arr Tryd.underlying24 Tryd.underlying22 Tryd.cellsU64 Tryd.cellsNum (hval 0 24 v0 rfl rfl) h0
  obtain ⟨na0, nb0, nc0, nd0, rfl⟩ := list4 xs0 l0
  obtain ⟨xs1, l1, rfl, rfl, rfl, w1⟩ := open_arr Tryd.underlying24 Tryd.underlying22 Tryd.cellsU64 Tryd.cellsNum (hval 1 24 v1 rfl rfl) h1
  obtain ⟨na1, nb1, nc1, nd1, rfl⟩ := list4 xs1 l1
  obtain ⟨xs2, l2, rfl, rfl, rfl, w2⟩ := open_arr Tryd.underlying26 Tryd.underlying22 Tryd.cellsU64 Tryd.cellsWide (hval 2 26 v2 rfl rfl) h2
  obtain ⟨na2, nb2, nc2, nd2, ne2, nf2, ng2, nh2, rfl⟩ := list8 xs2 l2
  obtain ⟨x3, rfl, rfl, rfl, w3⟩ := open_int Tryd.uU8 (hval 3 5 v3 rfl rfl) h3
  have hk4 : ∀ W' : World, Below W.heap.size W W' → DataW.Trod enc Tryd.prog W' 0 (fun b => decide (b < W.heap.size)) true 27 v4 d4 p4 := fun W' hn => Below.trod Tryd.laidOut (by kernel_rfl) (of_decide_eq_true (by kernel_rfl)) h4 hn (fun x hx => hlt x (by simp [hx]))
  obtain ⟨a4, n4, c4, rfl⟩ := okWide_slice Tryd.uBytes (hval 4 27 v4 rfl rfl)
  obtain ⟨fuel4, hf4⟩ := h4
  obtain ⟨l4, low4, hI4, len4⟩ := by_of_trod (u := .slice a4 n4 c4) (by simpa [Value.cells] using hf4)
  have z4 : l4.length ≤ 140737488351232 := by
    obtain ⟨a', c', e, _⟩ := hI4
    have en : n4 = l4.length := by cases e; rfl
    rw [← en]
    rcases len_of_trod (by simpa [Value.cells] using hf4) with ⟨_, h⟩ | ⟨es, sp, hd, h⟩
    · omega
    · simp only at hd
      subst hd
      have := sized_slice hsz (j := 4) (t := 27) (e := 5) rfl rfl Tryd.uBytes
      rw [Tryd.bytesU8] at this
      simp only [reachBytes] at this
      omega
  refine (scalarTells_law ⟨na0, nb0, nc0, nd0⟩ ⟨word_of_wf (w0 _ (by simp)), word_of_wf (w0 _ (by simp)), word_of_wf (w0 _ (by simp)), word_of_wf (w0 _ (by simp))⟩ ⟨na1, nb1, nc1, nd1⟩ ⟨word_of_wf (w1 _ (by simp)), word_of_wf (w1 _ (by simp)), word_of_wf (w1 _ (by simp)), word_of_wf (w1 _ (by simp))⟩ ⟨na2, nb2, nc2, nd2⟩ ⟨ne2, nf2, ng2, nh2⟩ ⟨word_of_wf (w2 _ (by simp)), word_of_wf (w2 _ (by simp)), word_of_wf (w2 _ (by simp)), word_of_wf (w2 _ (by simp))⟩ ⟨word_of_wf (w2 _ (by simp)), word_of_wf (w2 _ (by simp)), word_of_wf (w2 _ (by simp)), word_of_wf (w2 _ (by simp))⟩ x3 (byte_of_wf w3) _ l4 low4 z4 W hI4 (ktab_two hL) (rtab_two hL)).mono fun e W' ⟨he, hg⟩ => ?_
  subst he
  exact ⟨_, rfl, _, _, _, [], _, [], hW', trodAll_mk1 (shut_bool Tryd.underlying4 _), trodAll_cons_mk (shut_arr Tryd.underlying24 Tryd.underlying22 Tryd.cellsU64 Tryd.cellsNum l0 w0) (trodAll_cons_mk (shut_arr Tryd.underlying24 Tryd.underlying22 Tryd.cellsU64 Tryd.cellsNum l1 w1) (trodAll_cons_mk (shut_arr Tryd.underlying26 Tryd.underlying22 Tryd.cellsU64 Tryd.cellsWide l2 w2) (trodAll_cons_mk (shut_int Tryd.uU8 w3) (trodAll_cons_mk (hk4 _ hg) (trodAll_mk0))))), rfl, hg.frame _, fun h => by cases h⟩

theorem scalarTells_holds : Rows.ScalarTellsSaid :=
  OpenClaim.holds_of_cond 3 Tryd.f3 rfl rfl rfl rfl rfl rfl rfl ⟨rfl, rfl, rfl, rfl, rfl⟩ rfl rfl rfl rfl rfl (by kernel_rfl) Tryd.func3 (by kernel_rfl)
    (of_decide_eq_true (by kernel_rfl)) (by unfold Func.isWrapper; first | (rw [if_pos (by decide +kernel)]; kernel_rfl) | (rw [if_neg (by decide +kernel)]; exact ⟨rfl, rfl⟩))
    (fun os started H enc _ F => by rw [OpenClaim.pre_eq_preRow]; exact scalarTells_lifted os started H enc F)

theorem scalarTells_card : Rows.ScalarTellsCardSaid :=
  Claim7.holds_tied_plain_at .later [] _ _ _ _ scalarTells_holds (fun _ h => by cases h) (by kernel_rfl) (fun _ h => by cases h) scalarTells_row_tie rfl ⟨rfl, rfl⟩ (by kernel_rfl) rfl
    (fun f fn hf hfn => by
      obtain rfl : f = 3 := Option.some.inj ((show Tryd.prog.funcNamed "sealring/sealringlaw.ScalarTells" = some 3 by kernel_rfl).symm.trans hf) |>.symm
      obtain rfl : fn = Tryd.f3 := (Option.some.inj (Tryd.func3.symm.trans hfn)).symm
      exact ⟨by kernel_rfl, fun j t ht => by
        rw [Tryd.params3] at ht
        have hm : t ∈ [24, 24, 26, 5, 27] := by simpa using Array.mem_of_getElem? ht
        have hall : ([24, 24, 26, 5, 27].all fun u => !Tryd.prog.wantsStandIn u) = true := by kernel_rfl
        exact (show Tryd.prog.wantsStandIn t = false by simpa using List.all_eq_true.1 hall t hm)⟩)
    (by kernel_rfl)
#print axioms scalarTells_card
end Go.Proofs.YtjcnfffmciahiaaDoor
