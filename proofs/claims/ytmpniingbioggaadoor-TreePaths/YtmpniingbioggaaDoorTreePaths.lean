/- TreePaths returns true for all leaves and every place. -/
import Derived.Test.YtmpniingbioggaaDoorTChk
import Derived.Test.YtmpniingbioggaaDoorTArgs
import Derived.Test.YtmpniingbioggaaDoorTOpen
namespace Go.Proofs.YtmpniingbioggaaDoor
open Go.RowKit
open Go.BigFrame
open Go.ChangeShapes Go.WideShapes Go.ChangeAt
set_option linter.unusedSimpArgs false
set_option maxRecDepth 20000 in
set_option maxHeartbeats 2000000 in
theorem treePaths_law (v : Value) (ls : List (List Nat)) (low : ∀ p ∈ ls, (∀ y ∈ p, y < 256) ∧ p.length ≤ 140737488351232) (z : ls.length ≤ 140737488351232) (i : Int) (_ : -9223372036854775808 ≤ i ∧ i ≤ 9223372036854775807) (w : World) (h0 : Sb w v ls) (hK : KTab w) :
    Calls Tryd.prog 6 #[v, .int .i64 i] w fun e w' => e = .returned (.bool true) ∧ Below w.heap.size w w' := by
  obtain ⟨av, cv, rfl, hc, h3⟩ := id h0
  by_cases c1 : (60 : Int) < (ls.length : Int)
  · clear h0 hK low z h3 hc
    generalize ls.length = m at *
    go_enter Tryd.func6, Tryd.ntmps6
    go_wp2_with fail
    go_ret
    exact ⟨rfl, Below.refl _ _⟩
  · have c1b := decide_eq_false c1
    by_cases c2 : i < 0
    · clear h0 hK low z h3 hc
      generalize ls.length = m at *
      go_enter Tryd.func6, Tryd.ntmps6
      go_wp2_with fail
      go_ret
      exact ⟨rfl, Below.refl _ _⟩
    · have c2b := decide_eq_false c2
      by_cases c3 : (ls.length : Int) ≤ i
      · clear h0 hK low z h3 hc
        generalize ls.length = m at *
        go_enter Tryd.func6, Tryd.ntmps6
        go_wp2_with fail
        go_ret
        exact ⟨rfl, Below.refl _ _⟩
      · have c3b := decide_eq_false c3
        obtain ⟨j, rfl⟩ := Int.eq_ofNat_of_zero_le (show 0 ≤ i by omega)
        have hj : j < ls.length := by omega
        have lw := lowL.of low
        have PF : Hid _ := tpath_fun ls lw (by omega) j hj (.slice av ls.length cv) w h0 hK
        have RF : Hid _ := troot_fun ls.length ls (Nat.le_refl _) lw (by omega) (.slice av ls.length cv)
        have CT := chkS_true hj
        have lo := lw (ls.getD j []) (by rw [List.getD_eq_getElem?_getD, List.getElem?_eq_getElem hj]; exact List.getElem_mem hj)
        obtain ⟨b, o, rfl, hr⟩ := h3 (by omega)
        obtain ⟨u, hu, hy⟩ := hr j hj
        have CF : Hid _ := fun v2 => tcheck_fun (rootS ls) (rootS_length ls) ls.length j hj (by omega) u (ls.getD j []) lo.1 lo.2 v2 (pathS ls j) (pathS_low ls j) (Nat.le_trans (pathS_short hj (by omega)) (by decide))
        rw [CT] at CF
        have P6 : Hid ((pathS ls j).length ≤ 6) := T.path_short nodeS (k := 6) (l := ls.map leafS) (by rw [List.length_map]; omega) (by rw [List.length_map]; exact hj)
        have HV : Hid (Sb w _ ls) := h0
        have HK : Hid (KTab w) := hK
        have HU : Hid (w.cell? ⟨b, o + j, none⟩ = some u) := hu
        have HY : Hid (By w u (ls.getD j [])) := hy
        have jm : (j : Int) < (ls.length : Int) := by omega
        clear h0 hK low z h3 hc hr hu hy lo lw CT hj
        generalize ls.length = m at *
        generalize rootS ls = rt at *
        generalize pathS ls j = pt at *
        go_enter Tryd.func6, Tryd.ntmps6
        go_wp2_with fail
        refine Calls.mono PF.out ?_
        rintro e w2 ⟨⟨v2, rfl, od2⟩, hb2⟩
        obtain ⟨a2, e2, rfl, hc2, h32⟩ := id od2.ds
        have D2 : Hid (Below w.heap.size w w2) := hb2
        have S2 : Hid (Ds w2 (.slice a2 pt.length e2) pt) := od2.ds
        have p6 : (pt.length : Int) ≤ 6 := by have := P6.out; omega
        have p6b := decide_eq_true p6
        clear hb2 od2 PF hc2 h32 P6
        generalize pt.length = q at *
        go_wp2_with fail
        refine wp_region_up (by kernel_rfl) (by kernel_rfl) (fun U hU f hf hcl => ?_)
        have HB : ∀ n, Below w.heap.size w (f n) := fun n => D2.out.trans ((hf n).out.mono D2.out.size)
        have CU := fun n => ((HB n).cell (p := ⟨b, o + j, none⟩) (lt_of_cellB HU.out)).trans HU.out
        have RN : Hid _ := fun n => RF.out (f n) (HV.out.up (HB n) (Nat.le_refl _)) (HK.out.up (HB n) HK.out.pos)
        have CN : Hid _ := fun n => CF.out (.slice a2 q e2) (f n) (HY.out.up (HB n) (Nat.le_refl _)) (S2.out.up (hf n).out (Nat.le_refl _)) (HK.out.up (HB n) HK.out.pos)
        clear HB
        repeat (go_big_quiet_step (first | (go_at_call 15; exact (RN.out _).mono fun e w'' ⟨he, hb⟩ => ⟨he, hcl.out _ _ hb⟩) | (go_at_call 18; exact (CN.out _).mono fun e w'' ⟨he, hb⟩ => ⟨he, hcl.out _ _ hb⟩)))
        refine wpQuiet_nil ?_
        intro nn
        have hb3 := (hf nn).out
        generalize f nn = w3 at hb3 ⊢
        have D3 : Hid (Below w.heap.size w w3) := D2.out.trans (hb3.mono D2.out.size)
        clear hf hcl hb3 RN CN CU
        go_wp2_with fail
        go_ret
        exact ⟨rfl, D3.out⟩
set_option maxRecDepth 100000 in
theorem treePaths_met (os : Os) : laidMet Tryd.prog Rows.treePathsRow.laid ((World.doorLaid Tryd.prog 14 os).forCall (fun _ _ => 0) ⟨#[], #[.slice none 0 0, .int .i64 0], []⟩).memory := laidMet_of_run' 8 (by kernel_rfl) (by kernel_rfl)
set_option maxRecDepth 100000 in
theorem treePaths_reads (os : Os) {H : Type} (enc : TypeId × Value → H) : ∃ places, DataW.whole enc Tryd.prog ((World.doorLaid Tryd.prog 14 os).forCall (fun _ _ => 0) ⟨#[], #[.slice none 0 0, .int .i64 0], []⟩).memory Tryd.f6.params.toList Rows.treePathsSpec.vars false #[.slice none 0 0, .int .i64 0].toList 8 = some ([.nil, .lit (.int .i64 0)], [], places) := ⟨[], by kernel_rfl⟩
set_option maxRecDepth 100000 in
theorem treePaths_lifted (os : Os) (started : os.Started) (H : Type) (enc : TypeId × Value → H) (F : Stop.Interp) :
    ReturnsInHanded {} Tryd.checked os 6 .any ((OpenSpec.ofChange Rows.treePathsSpec).preRow enc Tryd.prog Tryd.f6 Rows.treePathsRow.domain false Rows.treePathsRow.laid) (((OpenSpec.ofChange Rows.treePathsSpec).at F).post enc Tryd.prog Tryd.f6 false true false false) := by
  obtain ⟨places, hx⟩ := treePaths_reads os enc
  refine returnsInHanded_of_row (C := Tryd.checked) (s := (OpenSpec.ofChange Rows.treePathsSpec)) Tryd.own started (by kernel_rfl) Tryd.func6
    (witness_row_at (enc := enc) (C := Tryd.checked) false (World.doorLaid Tryd.prog 14 os) #[.slice none 0 0, .int .i64 0] rfl (by kernel_rfl) (by kernel_rfl) (by kernel_rfl)
      (OpenSpec.preRow_of_cond 8 hx (by kernel_rfl) (fun k hk => by cases hk) (by kernel_rfl) (treePaths_met os))) ?_
  intro W base args ds gs before hval0 hW _ hcond hsz0 hL _ _
  have hval : ∀ (j : Nat) t v, Tryd.f6.params[j]? = some t → args[j]? = some v → Value.okWide Tryd.prog W .any base t v := hval0
  have hsz : (DataW.weightsEach Tryd.prog (Tryd.f6.params.toList ++ Rows.treePathsSpec.plain.varTypes Tryd.prog) (ds ++ gs)).all (· ≤ reachBytes) = true := hsz0
  have hW' := hW
  obtain ⟨p, q, hA0, hV, rfl, hfz, hnd⟩ := hW
  have hA : DataW.TrodAll enc Tryd.prog W 0 (fun _ => true) true Tryd.f6.params.toList args.toList ds p := hA0
  rw [Tryd.params6] at hA hval hsz
  obtain ⟨v0, v1, d0, d1, p0, p1, rfl, rfl, rfl, h0, h1⟩ := trodAll_two hA
  obtain ⟨rfl, rfl⟩ := trodVars_none hV
  simp only [List.append_nil] at hW'
  have hlt : ∀ x ∈ p0 ++ p1, x.block < W.heap.size := fun x hx => by simpa using hW'.lt x (by simpa using hx)
  have hk0 : ∀ W' : World, Below W.heap.size W W' → DataW.Trod enc Tryd.prog W' 0 (fun b => decide (b < W.heap.size)) true 22 v0 d0 p0 := fun W' hn => Below.trod Tryd.laidOut (by kernel_rfl) (of_decide_eq_true (by kernel_rfl)) h0 hn (fun x hx => hlt x (by simp [hx]))
  obtain ⟨a0, n0, c0, rfl⟩ := okWide_slice uBss (hval 0 22 v0 rfl rfl)
  obtain ⟨fuel0, hf0⟩ := h0
  obtain ⟨l0, low0, hI0, hx0⟩ := bss_open (u := .slice a0 n0 c0) (by simpa [Value.cells] using hf0) 140737488351232 (fun elems sp hd i es sp' he => by
    have hd' : d0 = .slice elems sp := hd
    subst hd'
    have := sized_inner hsz (j := 0) rfl rfl he
    simp only [reachBytes] at this
    omega)
  have z0 : l0.length ≤ 140737488351232 := by
    rcases hx0 with ⟨_, h⟩ | ⟨es, sp, hd, h⟩
    · rw [h]; exact Nat.zero_le _
    · simp only at hd
      subst hd
      have := sized_slice hsz (j := 0) (t := 22) (e := 23) rfl rfl uBss
      rw [bytesBytes] at this
      simp only [reachBytes] at this
      omega
  obtain ⟨x1, rfl, rfl, rfl, w1⟩ := open_int uInt_ (hval 1 3 v1 rfl rfl) h1
  refine (treePaths_law _ l0 low0 z0 x1 (int_of_wf w1) W hI0 (ktab_one hL)).mono fun e W' ⟨he, hg⟩ => ?_
  subst he
  exact ⟨_, rfl, _, _, _, [], _, [], hW', trodAll_mk1 (shut_bool Tryd.underlying4 _), trodAll_mk2 (hk0 _ hg) (shut_int uInt_ w1), rfl, hg.frame _, fun h => by cases h⟩

theorem treePaths_holds : Rows.TreePathsSaid :=
  OpenClaim.holds_of_cond 6 Tryd.f6 rfl rfl rfl rfl rfl rfl rfl ⟨rfl, rfl, rfl, rfl, rfl⟩ rfl rfl rfl rfl rfl (by kernel_rfl) Tryd.func6 (by kernel_rfl)
    (of_decide_eq_true (by kernel_rfl)) (by unfold Func.isWrapper; first | (rw [if_pos (by decide +kernel)]; kernel_rfl) | (rw [if_neg (by decide +kernel)]; exact ⟨rfl, rfl⟩))
    (fun os started H enc _ F => by rw [OpenClaim.pre_eq_preRow]; exact treePaths_lifted os started H enc F)

theorem treePaths_card : Rows.TreePathsCardSaid :=
  Claim7.holds_tied_plain_at .later [] _ _ _ _ treePaths_holds (fun _ h => by cases h) (by kernel_rfl) (fun _ h => by cases h) treePaths_row_tie rfl ⟨rfl, rfl⟩ (by kernel_rfl) rfl
    (fun f fn hf hfn => by
      obtain rfl : f = 6 := Option.some.inj ((show Tryd.prog.funcNamed "sealring/sealringkeep.TreePaths" = some 6 by kernel_rfl).symm.trans hf) |>.symm
      obtain rfl : fn = Tryd.f6 := (Option.some.inj (Tryd.func6.symm.trans hfn)).symm
      exact ⟨by kernel_rfl, fun j t ht => by
        rw [Tryd.params6] at ht
        have hm : t ∈ [22, 3] := by simpa using Array.mem_of_getElem? ht
        have hall : ([22, 3].all fun u => !Tryd.prog.wantsStandIn u) = true := by kernel_rfl
        exact (show Tryd.prog.wantsStandIn t = false by simpa using List.all_eq_true.1 hall t hm)⟩)
    (by kernel_rfl)
#print axioms treePaths_card
end Go.Proofs.YtmpniingbioggaaDoor
