/- SignBatch returns true for all that it is given. -/
import Derived.Test.YtfknkfninjjgbabDoorQUpQToSgBatch
import Derived.Test.YtfknkfninjjgbabDoorQSgBt
import Derived.Test.YtfknkfninjjgbabDoorQTSlToNumsO
import Derived.Test.YtfknkfninjjgbabDoorQOwn
import Derived.Test.YtfknkfninjjgbabDoorQArrToHOpen
import Derived.Test.YtfknkfninjjgbabDoorQHLaidToSDig
namespace Go.Proofs.YtfknkfninjjgbabDoor
open Go.RowKit
open Go.ChangeShapes Go.WideShapes Go.ChangeAt
set_option linter.unusedSimpArgs false
theorem signBatch_of (NC : SgNewC) (SC : SgSignC) (VC : SgVerC) (BC : SgBatC) (v0 : Value) (ds : List (List Nat)) (ld : Dlow ds) (v1 : Value) (ls : List (List Nat)) (lo : ∀ p ∈ ls, lowP p) (v2 : Value) (ns : List Nm) (on : ∀ x ∈ ns, x.ok) (w : World) (h0 : Ds w v0 ds) (h1 : Sb w v1 ls) (h2 : Nms w v2 ns) (hT : KTab w) :
    Calls Tryd.prog 4 #[v0, v1, v2] w fun e w' => e = .returned (.bool true) ∧ Below w.heap.size w w' := by
  have SS : ∀ w, KTab w → Calls Tryd.prog 13 #[] w fun e w' => e = .returned (.bool true) ∧ Below w.heap.size w w' := fun w hT => signs_fun NC SC VC w hT
  obtain ⟨a, c, rfl, _, h0'⟩ := h0
  obtain ⟨b, d, rfl, _, h1'⟩ := h1
  obtain ⟨q, m, rfl, _⟩ := id h2
  by_cases hn : 4 < ds.length
  · exact signBatch_1 a _ c hn _ _ w hT SS
  · by_cases hm : ls.length = ds.length
    · by_cases hk : ns.length = ds.length
      · rw [hk] at h2 ⊢
        rw [hm] at h1' ⊢
        have at_ : ∀ j, j < ds.length → (ds.getD j []).length = 32 ∧ ∀ x ∈ ds.getD j [], x < 256 := fun j hj => by
          rw [List.getD_eq_getElem?_getD, List.getElem?_eq_getElem hj]
          exact ld _ (List.getElem_mem hj)
        refine signBatch_walk ds.length (by omega) (fun j => S.le (ds.getD j [])) (fun j => ls.getD j []) a c b d q m w (fun j hj => S.low (at_ j hj).1 (at_ j hj).2) (fun j hj => ?_) SS NC SC (fun v W hb hv hT => ?_) (fun hp => ?_) (fun hp => ?_) hT
        · have hj' : j < ls.length := by omega
          show lowP (ls.getD j [])
          rw [List.getD_eq_getElem?_getD, List.getElem?_eq_getElem hj']
          exact lo _ (List.getElem_mem hj')
        · have := BC _ ns (fun e he => ?_) on v _ W hv (h2.up hb) hT
          · rwa [show bchN ((List.range ds.length).map (sgOf (fun j => S.le (ds.getD j [])) (fun j => ls.getD j []))) ns = 0 by
              unfold bchN
              rw [if_neg (by simp; omega), if_neg (by simp [hk])]
              refine batN_true _ 0 Cv.zero Cv.zero_on rfl fun x hx => ?_
              have hx2 := (List.of_mem_zip (show (x.1, x.2) ∈ _ from hx)).2
              obtain ⟨j, _, e⟩ := List.mem_map.1 hx2
              rw [← e]
              exact rd_signed _ _] at this
          · obtain ⟨j, hj, rfl⟩ := List.mem_map.1 he
            have hj := List.mem_range.1 hj
            have hj' : j < ls.length := by omega
            refine ⟨pub_lt _, ?_, low_sig _ _⟩
            show lowP (ls.getD j [])
            rw [List.getD_eq_getElem?_getD, List.getElem?_eq_getElem hj']
            exact lo _ (List.getElem_mem hj')
        · obtain ⟨g, o, e, hr⟩ := h0' hp
          exact ⟨g, o, e, fun j hj => by rw [← S.row (at_ j hj).1 (at_ j hj).2]; exact hr j hj⟩
        · obtain ⟨g, o, e, hr⟩ := h1' (by omega)
          exact ⟨g, o, e, fun j hj => hr j (by omega)⟩
      · exact (by rw [hm]; exact signBatch_3 a b q _ c d _ m (by omega) hk w hT SS)
    · exact signBatch_2 a b _ c _ d (by omega) hm _ w hT SS
theorem signBatch_law (v0 : Value) (ds : List (List Nat)) (ld : Dlow ds) (_ : ds.length ≤ 140737488351232) (v1 : Value) (ls : List (List Nat)) (lo : ∀ p ∈ ls, (∀ y ∈ p, y < 256) ∧ p.length ≤ 140737488351232) (_ : ls.length ≤ 140737488351232) (v2 : Value) (ns : List Nm) (on : ∀ x ∈ ns, x.ok) (_ : ns.length ≤ 140737488351232) (w : World) (h0 : Ds w v0 ds) (h1 : Sb w v1 ls) (h2 : Nms w v2 ns) (hK : KTab w) :
    Calls Tryd.prog 4 #[v0, v1, v2] w fun e w' => e = .returned (.bool true) ∧ Below w.heap.size w w' :=
  signBatch_of sgNewC sgSignC sgVerC sgBatC v0 ds ld v1 ls lo v2 ns on w h0 h1 h2 hK
set_option maxRecDepth 100000 in
theorem signBatch_met (os : Os) : laidMet Tryd.prog Rows.signBatchRow.laid ((World.doorLaid Tryd.prog 14 os).forCall (fun _ _ => 0) ⟨#[], #[.slice none 0 0, .slice none 0 0, .slice none 0 0], []⟩).memory := laidMet_of_run' 8 (by kernel_rfl) (by kernel_rfl)
set_option maxRecDepth 100000 in
theorem signBatch_reads (os : Os) {H : Type} (enc : TypeId × Value → H) : ∃ places, DataW.whole enc Tryd.prog ((World.doorLaid Tryd.prog 14 os).forCall (fun _ _ => 0) ⟨#[], #[.slice none 0 0, .slice none 0 0, .slice none 0 0], []⟩).memory Tryd.f4.params.toList Rows.signBatchSpec.vars false #[.slice none 0 0, .slice none 0 0, .slice none 0 0].toList 8 = some ([.nil, .nil, .nil], [], places) := ⟨[], by kernel_rfl⟩
set_option maxRecDepth 100000 in
theorem signBatch_lifted (os : Os) (started : os.Started) (H : Type) (enc : TypeId × Value → H) (F : Stop.Interp) :
    ReturnsInHanded {} Tryd.checked os 4 .any ((OpenSpec.ofChange Rows.signBatchSpec).preRow enc Tryd.prog Tryd.f4 Rows.signBatchRow.domain false Rows.signBatchRow.laid) (((OpenSpec.ofChange Rows.signBatchSpec).at F).post enc Tryd.prog Tryd.f4 false true false false) := by
  obtain ⟨places, hx⟩ := signBatch_reads os enc
  refine returnsInHanded_of_row (C := Tryd.checked) (s := (OpenSpec.ofChange Rows.signBatchSpec)) Tryd.own started (by kernel_rfl) Tryd.func4
    (witness_row_at (enc := enc) (C := Tryd.checked) false (World.doorLaid Tryd.prog 14 os) #[.slice none 0 0, .slice none 0 0, .slice none 0 0] rfl (by kernel_rfl) (by kernel_rfl) (by kernel_rfl)
      (OpenSpec.preRow_of_cond 8 hx (by kernel_rfl) (fun k hk => by cases hk) (by kernel_rfl) (signBatch_met os))) ?_
  intro W base args ds gs before hval0 hW _ hcond hsz0 hL _ _
  have hval : ∀ (j : Nat) t v, Tryd.f4.params[j]? = some t → args[j]? = some v → Value.okWide Tryd.prog W .any base t v := hval0
  have hsz : (DataW.weightsEach Tryd.prog (Tryd.f4.params.toList ++ Rows.signBatchSpec.plain.varTypes Tryd.prog) (ds ++ gs)).all (· ≤ reachBytes) = true := hsz0
  have hW' := hW
  obtain ⟨p, q, hA0, hV, rfl, hfz, hnd⟩ := hW
  have hA : DataW.TrodAll enc Tryd.prog W 0 (fun _ => true) true Tryd.f4.params.toList args.toList ds p := hA0
  rw [Tryd.params4] at hA hval hsz
  obtain ⟨v0, v1, v2, d0, d1, d2, p0, p1, p2, rfl, rfl, rfl, h0, h1, h2⟩ := trodAll_three hA
  obtain ⟨rfl, rfl⟩ := trodVars_none hV
  simp only [List.append_nil] at hW'
  have hlt : ∀ x ∈ p0 ++ p1 ++ p2, x.block < W.heap.size := fun x hx => by simpa using hW'.lt x (by simpa using hx)
  have hk0 : ∀ W' : World, Below W.heap.size W W' → DataW.Trod enc Tryd.prog W' 0 (fun b => decide (b < W.heap.size)) true 41 v0 d0 p0 := fun W' hn => Below.trod Tryd.laidOut (by kernel_rfl) (of_decide_eq_true (by kernel_rfl)) h0 hn (fun x hx => hlt x (by simp [hx]))
  obtain ⟨a0, n0, c0, rfl⟩ := okWide_slice uDss (hval 0 41 v0 rfl rfl)
  obtain ⟨fuel0, hf0⟩ := h0
  obtain ⟨l0, low0, hI0, hx0⟩ := dss_open (u := .slice a0 n0 c0) (by simpa [Value.cells] using hf0)
  have z0 : l0.length ≤ 140737488351232 := by
    rcases hx0 with ⟨_, h⟩ | ⟨es, sp, hd, h⟩
    · rw [h]; exact Nat.zero_le _
    · simp only at hd
      subst hd
      have := sized_slice hsz (j := 0) (t := 41) (e := 22) rfl rfl uDss
      rw [bytesD32] at this
      simp only [reachBytes] at this
      omega
  have hk1 : ∀ W' : World, Below W.heap.size W W' → DataW.Trod enc Tryd.prog W' 0 (fun b => decide (b < W.heap.size)) true 42 v1 d1 p1 := fun W' hn => Below.trod Tryd.laidOut (by kernel_rfl) (of_decide_eq_true (by kernel_rfl)) h1 hn (fun x hx => hlt x (by simp [hx]))
  obtain ⟨a1, n1, c1, rfl⟩ := okWide_slice uBss (hval 1 42 v1 rfl rfl)
  obtain ⟨fuel1, hf1⟩ := h1
  obtain ⟨l1, low1, hI1, hx1⟩ := bss_open (u := .slice a1 n1 c1) (by simpa [Value.cells] using hf1) 140737488351232 (fun elems sp hd i es sp' he => by
    have hd' : d1 = .slice elems sp := hd
    subst hd'
    have := sized_inner hsz (j := 1) rfl rfl he
    simp only [reachBytes] at this
    omega)
  have z1 : l1.length ≤ 140737488351232 := by
    rcases hx1 with ⟨_, h⟩ | ⟨es, sp, hd, h⟩
    · rw [h]; exact Nat.zero_le _
    · simp only at hd
      subst hd
      have := sized_slice hsz (j := 1) (t := 42) (e := 23) rfl rfl uBss
      rw [bytesBytes] at this
      simp only [reachBytes] at this
      omega
  have hk2 : ∀ W' : World, Below W.heap.size W W' → DataW.Trod enc Tryd.prog W' 0 (fun b => decide (b < W.heap.size)) true 43 v2 d2 p2 := fun W' hn => Below.trod Tryd.laidOut (by kernel_rfl) (of_decide_eq_true (by kernel_rfl)) h2 hn (fun x hx => hlt x (by simp [hx]))
  obtain ⟨a2, n2, c2, rfl⟩ := okWide_slice uNums (hval 2 43 v2 rfl rfl)
  obtain ⟨fuel2, hf2⟩ := h2
  obtain ⟨l2, low2, hI2, hx2⟩ := nums_open (u := .slice a2 n2 c2) (by simpa [Value.cells] using hf2)
  have z2 : l2.length ≤ 140737488351232 := by
    rcases hx2 with ⟨_, h⟩ | ⟨es, sp, hd, h⟩
    · rw [h]; exact Nat.zero_le _
    · simp only at hd
      subst hd
      have := sized_slice hsz (j := 2) (t := 43) (e := 26) rfl rfl uNums
      rw [bytesNum] at this
      simp only [reachBytes] at this
      omega
  refine (signBatch_law _ l0 low0 z0 _ l1 low1 z1 _ l2 low2 z2 W hI0 hI1 hI2 (ktab_one hL)).mono fun e W' ⟨he, hg⟩ => ?_
  subst he
  exact ⟨_, rfl, _, _, _, [], _, [], hW', trodAll_mk1 (shut_bool Tryd.underlying4 _), trodAll_mk3 (hk0 _ hg) (hk1 _ hg) (hk2 _ hg), rfl, hg.frame _, fun h => by cases h⟩

theorem signBatch_holds : Rows.SignBatchSaid :=
  OpenClaim.holds_of_cond 4 Tryd.f4 rfl rfl rfl rfl rfl rfl rfl ⟨rfl, rfl, rfl, rfl, rfl⟩ rfl rfl rfl rfl rfl (by kernel_rfl) Tryd.func4 (by kernel_rfl)
    (of_decide_eq_true (by kernel_rfl)) (by unfold Func.isWrapper; first | (rw [if_pos (by decide +kernel)]; kernel_rfl) | (rw [if_neg (by decide +kernel)]; exact ⟨rfl, rfl⟩))
    (fun os started H enc _ F => by rw [OpenClaim.pre_eq_preRow]; exact signBatch_lifted os started H enc F)

theorem signBatch_card : Rows.SignBatchCardSaid :=
  Claim7.holds_tied_plain_at .later [] _ _ _ _ signBatch_holds (fun _ h => by cases h) (by kernel_rfl) (fun _ h => by cases h) signBatch_row_tie rfl ⟨rfl, rfl⟩ (by kernel_rfl) rfl
    (fun f fn hf hfn => by
      obtain rfl : f = 4 := Option.some.inj ((show Tryd.prog.funcNamed "sealring/sealringkeep.SignBatch" = some 4 by kernel_rfl).symm.trans hf) |>.symm
      obtain rfl : fn = Tryd.f4 := (Option.some.inj (Tryd.func4.symm.trans hfn)).symm
      exact ⟨by kernel_rfl, fun j t ht => by
        rw [Tryd.params4] at ht
        have hm : t ∈ [41, 42, 43] := by simpa using Array.mem_of_getElem? ht
        have hall : ([41, 42, 43].all fun u => !Tryd.prog.wantsStandIn u) = true := by kernel_rfl
        exact (show Tryd.prog.wantsStandIn t = false by simpa using List.all_eq_true.1 hall t hm)⟩)
    (by kernel_rfl)
#print axioms signBatch_card
end Go.Proofs.YtfknkfninjjgbabDoor
